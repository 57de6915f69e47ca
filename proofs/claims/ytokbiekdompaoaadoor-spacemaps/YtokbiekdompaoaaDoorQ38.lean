/- leastLeft: the least page that a map does not have as taken. -/
import Derived.Test.YtokbiekdompaoaaDoorQ34
import Derived.Deep.CutBlock
import Derived.Deep.DeepCutAuto
namespace Go.Proofs.YtokbiekdompaoaaDoor
open Go.RowKit Go.Shelf
attribute [local go_sem] Oper.semAt_some

def leftX (c : Nat) (x : Nat × Bool) : Bool := !x.2 && decide (x.1 < c)
/-- Between two rounds of leastLeft; behind one that leaves. -/
def LeI (c N3 N6 N7 sp : Nat) (w : World) (pre : List (Nat × Bool)) (W : World) : Prop := (∀ x ∈ pre, leftX c x = false) ∧ Boxed W N3 30 (Ptr sp) ∧ Boxed W N6 3 (.int .i64 0) ∧ Boxed W N7 4 (.bool false) ∧ Below w.heap.size w W
def LeX (c N6 N7 : Nat) (w : World) (cd : Code) (pre : List (Nat × Bool)) (W : World) : Prop := cd = .ret ∧ ∃ p0 x, pre = p0 ++ [x] ∧ leftX c x = true ∧ (∀ y ∈ p0, leftX c y = false) ∧ Boxed W N6 3 (.int .i64 (x.1 : Int)) ∧ Boxed W N7 4 (.bool true) ∧ Below w.heap.size w W
set_option maxRecDepth 100000 in
theorem LeX_own (B c N6 N7 : Nat) (w : World) (cd : Code) (hB : w.heap.size ≤ B) : OwnFrom B (LeX c N6 N7 w cd) := by
  rintro pre A A' row ⟨h1, p0, x, h2, h3, h4, b6, b7, hb⟩ hg hr
  refine ⟨h1, p0, x, h2, h3, h4, (Own.from (boxed_own N6 3 (fun _ : Unit => .int .i64 (x.1 : Int))) B) () A A' row b6 hg hr, (Own.from (boxed_own N7 4 (fun _ : Unit => .bool true)) B) () A A' row b7 hg hr, (ownFrom_below (β := Unit) (Nat.le_refl _) hB) () A A' row hb hg hr⟩
set_option maxRecDepth 100000 in
theorem least_at {c k j : Nat} {bs : List UInt8} (hj : j < 8 * bs.length) (h1 : G.isLeft c k bs j = true) (h2 : ∀ i, i < j → G.isLeft c k bs i = false) : G.least c k bs = some j := by
  unfold G.least
  rw [List.find?_range_eq_some]
  exact ⟨h1, List.mem_range.2 hj, fun i hi => by rw [h2 i hi]; rfl⟩
set_option maxRecDepth 100000 in
theorem least_none {c k : Nat} {bs : List UInt8} (h : ∀ i, i < 8 * bs.length → G.isLeft c k bs i = false) : G.least c k bs = none := by
  unfold G.least
  rw [List.find?_eq_none]
  intro i hi
  rw [h i (List.mem_range.1 hi)]
  simp
/-- What leastLeft tells. -/
def leVal (k : Nat) : Option Nat → Value
  | some i => .tuple #[.int .i64 ((1920 * k + i : Nat) : Int), .bool true]
  | none => .tuple #[.int .i64 0, .bool false]
set_option maxRecDepth 100000 in
set_option maxHeartbeats 2000000 in
theorem sleast_any {w : World} {sp p c : Nat} (h : Spc w sp p c) {k : Nat} (hk : k ≤ 3) (b o : Nat) (bs : List UInt8) (len cap : Nat) (hl : bs.length = len) (hA : At w (some ⟨b, o, none⟩) bs) (h1 : 1 ≤ len) (hlen : len ≤ 240) : Calls Tryd.prog 28 #[Ptr sp, .int .i64 (k : Int), .slice (some ⟨b, o, none⟩) len cap] w (Adding (leVal k (G.least c k bs)) w) := by
  have HS := hid h
  have HK := hid (And.intro hk (And.intro h1 (And.intro hlen hl)))
  have hg : b < w.heap.size := by
    obtain ⟨b', o', e, hc'⟩ := hA 0 (bs[0]'(by omega)) (by simp)
    cases e
    exact World.block_lt_of_cell? w _ hc'
  obtain ⟨wc, hwc⟩ : ∃ wc, wc = ((w.alloc (.cells #[Ptr sp] 30)).alloc (.cells #[.int .i64 0] 3)).alloc (.cells #[.bool false] 4) := ⟨_, rfl⟩
  have hA7 : Adds w wc := by rw [hwc]; exact (((Touch.refl _ w).alloc _).alloc _).alloc _
  have hzc : wc.heap.size = w.heap.size + 3 := by rw [hwc]; simp
  obtain ⟨wN, hwN⟩ : ∃ wN, wN = (wc.alloc (.cells #[.int .i64 (k : Int)] 3)).alloc (.cells #[.slice (some ⟨b, o, none⟩) len cap] 55) := ⟨_, rfl⟩
  have hz : wN.heap.size = w.heap.size + 5 := by rw [hwN]; simp; omega
  have H8 := hid (show Boxed wN w.heap.size 30 (Ptr sp) ∧ Boxed wN (w.heap.size + 1) 3 (.int .i64 0) ∧ Boxed wN (w.heap.size + 2) 4 (.bool false) ∧ Below w.heap.size w wN by
    have e1 := Boxed.new (w.alloc (.cells #[Ptr sp] 30)) 3 (.int .i64 0)
    have e2 := Boxed.new ((w.alloc (.cells #[Ptr sp] 30)).alloc (.cells #[.int .i64 0] 3)) 4 (.bool false)
    rw [World.size_alloc] at e1 e2
    rw [World.size_alloc] at e2
    rw [hwN, hwc]
    exact ⟨((((Boxed.new w 30 (Ptr sp)).alloc _).alloc _).alloc _).alloc _, ((e1.alloc _).alloc _).alloc _, (e2.alloc _).alloc _, Adds.below (((((Touch.refl _ w).alloc _).alloc _).alloc _).alloc _ |>.alloc _)⟩)
  have HB := hid (show Calls Tryd.prog 30 #[.int .i64 (k : Int), .slice (some ⟨b, o, none⟩) len cap] wc (fun e w' => e = .returned (.func (.func 43) #[] #[Ptr (wc.heap.size + 1), Ptr wc.heap.size]) ∧ w' = wN) by rw [hwN]; exact bits_any wc k _ ⟨_, _, _, rfl⟩)
  rw [hwc] at HB
  have HR := hid (bits_reads hwN (hA.adds hA7) hl h1 hlen (by omega) 8 (by omega))
  rw [hzc] at HR
  clear hwN hwc h hA hA7 hzc hl h1 hlen
  have hk3 : (k : Int) ≤ 3 := by omega
  refine calls_marks Tryd.func28 rfl ?_
  simp only [Tryd.ntmps28, List.size_toArray, List.length_cons, List.length_nil, Nat.reduceAdd, Nat.reduceSub, Array.replicate_succ, Array.replicate_zero, List.push_toArray, List.append_toArray, List.nil_append, List.cons_append]
  go_wp2_with (go_at_call 30; refine HB.out.mono ?_; rintro e w1 ⟨rfl, hw⟩; rw [hw]; clear hw)
  have h65 : w.heap.size ≤ wN.heap.size := by omega
  refine (wpIn_wide (n := 9)).1 (wpIn_rangeFunc_ownF (F := Fence.wide) (n := 9) rfl (by omega) (gf := 43) (lb := #[Ptr (w.heap.size + 3 + 1), Ptr (w.heap.size + 3)]) rfl trivial (enters_of Tryd.func43 (by kernel_rfl) rfl)
    HR.out (fun h k => kp3_t h k) (kp3_b (fun j hj => by simp at hj; omega)) (Below.refl _ _) (fun _ => rfl)
    (LeI c w.heap.size (w.heap.size + 1) (w.heap.size + 1 + 1) sp w) (LeX c (w.heap.size + 1) (w.heap.size + 1 + 1) w)
    (OwnFrom.and (ownFrom_pure _ _) (OwnFrom.and (Own.from (boxed_own w.heap.size 30 (fun _ => _)) _) (OwnFrom.and (Own.from (boxed_own (w.heap.size + 1) 3 (fun _ => _)) _) (OwnFrom.and (Own.from (boxed_own (w.heap.size + 1 + 1) 4 (fun _ => _)) _) (ownFrom_below (Nat.le_refl _) h65)))))
    (fun cd => LeX_own _ _ _ _ _ cd h65)
    ⟨fun x hx => absurd hx List.not_mem_nil, H8.out⟩
    (fun x => { tmps := #[Ptr sp, Value.int IntKind.i64 (k : Int), Value.slice (some ⟨b, o, none⟩) len cap, Value.pointer (some ⟨w.heap.size, 0, none⟩), undef, undef, Value.pointer (some ⟨w.heap.size + 1, 0, none⟩), Value.pointer (some ⟨w.heap.size + 1 + 1, 0, none⟩), .int .i64 (x.1 : Int), .bool x.2, Value.int IntKind.i64 (k : Int), Value.slice (some ⟨b, o, none⟩) len cap, Value.func (Fn.func 43) #[] #[Ptr (w.heap.size + 1 + 1 + 1 + 1), Ptr (w.heap.size + 1 + 1 + 1)], .int .i64 (x.1 : Int), .bool x.2, undef, undef, undef, undef, undef, undef, undef, undef, undef, undef, undef, undef], defers := [] }) ?assign ?body ?done ?stop)
  case assign =>
    intro l x W K hK
    gi_wp2
    exact hK
  case body =>
    rintro l pre ⟨y, t⟩ W ⟨hw, b3, b6, b7, hB⟩ _
    have HW := hid (And.intro hw (And.intro b3 (And.intro b6 (And.intro b7 hB))))
    have HSp := hid (HS.out.below hB HS.out.lt.1 HS.out.lt.2)
    have c3 := b3.cell
    have c6 := b6.cell
    have f6 := b6.frozen
    have c7 := b7.cell
    have f7 := b7.frozen
    have c7' := (b7.other (B' := w.heap.size + 1) (by omega) (.int .i64 (y : Int))).cell
    have f7' := (b7.other (B' := w.heap.size + 1) (by omega) (.int .i64 (y : Int))).frozen
    have cp : W.cell? ⟨sp, 0, none⟩ = some (Ptr p) := by rw [cellOf HSp.out.box]; rfl
    have HN := hid (scount_any HSp.out)
    clear hw b3 b6 b7 hB
    have HX := hid (show leftX c (y, t) = (!t && decide (y < c)) from rfl)
    have HOn := hid (fun (ht : leftX c (y, t) = false) => show KeepsOthers W W ∧ Kp3 [b, w.heap.size + 3, w.heap.size + 3 + 1] W W ∧ LeI c w.heap.size (w.heap.size + 1) (w.heap.size + 1 + 1) sp w (pre ++ [(y, t)]) W from
      ⟨KeepsOthers.refl _, fun _ _ => rfl, fun x hx => by
        rcases List.mem_append.1 hx with hx | hx
        · exact HW.out.1 x hx
        · rw [List.mem_singleton.1 hx]; exact ht, HW.out.2⟩)
    cases t
    · by_cases q : y < c
      · gi_wp2_with (refine ⟨trivial, ?_⟩; gi_at_call 26; refine (CallsIn.inRound l (callsIn_wide.2 HN.out)).mono ?_; rintro e w1 ⟨rfl, hw⟩; rw [hw]; clear hw)
        refine ⟨(KeepsOthers.setCell _ _ _).trans (KeepsOthers.setCell _ _ _), rfl, pre, (y, false), rfl, by rw [HX.out]; simp [q], HW.out.1, (HW.out.2.2.1.set _).other (by omega) _, (HW.out.2.2.2.1.other (by omega) _).set _, ?_⟩
        exact (HW.out.2.2.2.2.setCell (p := ⟨w.heap.size + 1, 0, none⟩) (by simp) _).setCell (p := ⟨w.heap.size + 1 + 1, 0, none⟩) (by simp; omega) _
      · gi_wp2_with (refine ⟨trivial, ?_⟩; gi_at_call 26; refine (CallsIn.inRound l (callsIn_wide.2 HN.out)).mono ?_; rintro e w1 ⟨rfl, hw⟩; rw [hw]; clear hw)
        exact HOn.out (by rw [HX.out]; simp [q])
    · gi_wp2
      refine ⟨trivial, ?_⟩
      gi_wp2
      exact HOn.out (by rw [HX.out]; simp)
  case done =>
    rintro D xs W hD hS ⟨hw, b3, b6, b7, hB⟩ hK
    have hm : G.least c k bs = none := least_none (fun i hi => by
      obtain ⟨b', e, hx⟩ := hS.2 i (by rw [← HK.out.2.2.2]; exact hi)
      have h2 := hw _ (List.mem_of_getElem? hx)
      rw [e] at h2
      exact h2)
    have HW := hid (And.intro b6 (And.intro b7 (And.intro hB (And.intro hK hD))))
    have c6 := b6.cell
    have f6 := b6.frozen
    have c7 := b7.cell
    have f7 := b7.frozen
    have c7' := (b7.other (B' := w.heap.size + 1) (by omega) (.int .i64 0)).cell
    have f7' := (b7.other (B' := w.heap.size + 1) (by omega) (.int .i64 0)).frozen
    rw [hm]
    clear b3 b6 b7 hB hK hw hS hD
    go_wp2_with fail
    have hK' := ((KeepsOthers.setCell W ⟨w.heap.size + 1, 0, none⟩ (.int .i64 0)).trans (KeepsOthers.setCell _ ⟨w.heap.size + 1 + 1, 0, none⟩ (.bool false))).same D _ HW.out.2.2.2.1 rfl
    refine ⟨by simp, .inl ⟨_, _, rfl, run_takeDeferred hK', ?_⟩⟩
    have d6 := cell_kept ((HW.out.1.set (.int .i64 0)).other (B' := w.heap.size + 1 + 1) (by omega) (.bool false)).cell (grownBy_putObj' _ D (.deferred none)) (fun r e => by cases e; exact ⟨_, hK', rfl⟩)
    have d7 := cell_kept ((HW.out.2.1.other (B' := w.heap.size + 1) (by omega) (.int .i64 0)).set (.bool false)).cell (grownBy_putObj' _ D (.deferred none)) (fun r e => by cases e; exact ⟨_, hK', rfl⟩)
    refine ⟨.tuple #[.int .i64 0, .bool false], by simp [results, Tryd.f28, go_sem, d6, d7], by rw [hm]; rfl, Touch.of_below ?_⟩
    exact ((HW.out.2.2.1.setCell (p := ⟨w.heap.size + 1, 0, none⟩) (by simp) _).setCell (p := ⟨w.heap.size + 1 + 1, 0, none⟩) (by simp; omega) _).trans (belowK_b (w := wN) h65 _ D _ _ HW.out.2.2.2.2 hK' rfl rfl)
  case stop =>
    rintro D cd pre W hD hSp ⟨rfl, p0, x, rfl, hx, hy, b6, b7, hB⟩ hK
    obtain ⟨j, hj, hU⟩ := hSp
    have hp : p0.length = j := by have := hU.1; simpa using this
    have hxj : x = fX k j (G.bit bs j) := by
      obtain ⟨b', e, hx'⟩ := hU.2 j (by omega)
      rw [List.getElem?_append_right (by omega), hp, Nat.sub_self] at hx'
      rw [← e]
      exact Option.some.inj hx'
    have hm : G.least c k bs = some j := least_at (by rw [HK.out.2.2.2]; exact hj) (by rw [hxj] at hx; exact hx) (fun i hi => by
      obtain ⟨b', e, hx'⟩ := hU.2 i (by omega)
      rw [List.getElem?_append_left (by omega)] at hx'
      have h2 := hy _ (List.mem_of_getElem? hx')
      rw [e] at h2
      exact h2)
    have hx1 : x.1 = 1920 * k + j := by rw [hxj]
    have HW := hid (And.intro b6 (And.intro b7 (And.intro hB (And.intro hK hD))))
    rw [hm]
    clear b6 b7 hB hK hD hx hy hU hxj hp
    refine (wpIn_wide (n := 9)).2 ?_
    go_wp2_with fail
    refine ⟨by simp, .inl ⟨_, _, rfl, run_takeDeferred HW.out.2.2.2.1, ?_⟩⟩
    have d6 := cell_kept HW.out.1.cell (grownBy_putObj' _ D (.deferred none)) (fun r e => by cases e; exact ⟨_, HW.out.2.2.2.1, rfl⟩)
    have d7 := cell_kept HW.out.2.1.cell (grownBy_putObj' _ D (.deferred none)) (fun r e => by cases e; exact ⟨_, HW.out.2.2.2.1, rfl⟩)
    refine ⟨.tuple #[.int .i64 (x.1 : Int), .bool true], by simp [results, Tryd.f28, go_sem, d6, d7], by rw [hx1]; rfl, Touch.of_below ?_⟩
    exact HW.out.2.2.1.trans (belowK_b (w := wN) h65 _ D _ _ HW.out.2.2.2.2 HW.out.2.2.2.1 rfl rfl)
end Go.Proofs.YtokbiekdompaoaaDoor
