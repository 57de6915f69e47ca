/- mayBe: a map's bits gone through. -/
import Derived.Test.YtokbiekdompaoaaDoorQ34
import Derived.Deep.CutBlock
import Derived.Deep.DeepCutAuto
import Derived.Deep.CutRange
namespace Go.Proofs.YtokbiekdompaoaaDoor
open Go.RowKit Go.Shelf
attribute [local go_sem] Oper.semAt_some

/-- A bit that stands against a map, of a page's number. -/
def wrongX (c : Nat) (x : Nat × Bool) : Bool := (decide (x.1 < G.maps c) && !x.2) || (decide (c ≤ x.1) && x.2)
/-- Between two rounds of mayBe; behind one that leaves. -/
def MayI (c N M N6 : Nat) (w : World) (pre : List (Nat × Bool)) (W : World) : Prop := (∀ x ∈ pre, wrongX c x = false) ∧ Boxed W N 3 (.int .i64 ((G.maps c : Nat) : Int)) ∧ Boxed W M 3 (.int .i64 (c : Int)) ∧ Boxed W N6 4 (.bool false) ∧ Below w.heap.size w W
def MayX (c N6 : Nat) (w : World) (cd : Code) (pre : List (Nat × Bool)) (W : World) : Prop := cd = .ret ∧ (∃ x ∈ pre, wrongX c x = true) ∧ Boxed W N6 4 (.bool false) ∧ Below w.heap.size w W
set_option maxRecDepth 100000 in
set_option maxHeartbeats 2000000 in
theorem smay_any {w : World} {sp p c : Nat} (h : Spc w sp p c) (hc : c ≤ 4096) {k : Nat} (hk : k < G.maps c) (a : Option Addr) (bs : List UInt8) (len cap : Nat) (hl : bs.length = len) (hA : At w a bs) (hlen : len ≤ 1000000) : Calls Tryd.prog 41 #[Ptr sp, .int .i64 (k : Int), .slice a len cap] w (Adding (.bool (G.may c k bs)) w) := by
  have h3 := G.maps_le hc
  have hcp := G.cells_pos hk
  have hc240 := G.cells_le c k
  by_cases q : len = G.cells c k
  · obtain ⟨b, o, ea⟩ : ∃ b o, a = some ⟨b, o, none⟩ := by
      obtain ⟨b, o, ea, _⟩ := hA 0 (bs[0]'(by omega)) (by simp)
      exact ⟨b, o, ea⟩
    subst ea
    have HS := hid h
    have HC := hid (fun w' (hA' : Adds w w') => scell_any (h.adds hA') hc hk)
    have HM := hid (fun w' (hA' : Adds w w') => smaps_any (h.adds hA') hc)
    have HN := hid (fun w' (hA' : Adds w w') => scount_any (h.adds hA'))
    have c0 : ∀ w', Adds w w' → w'.cell? ⟨sp, 0, none⟩ = some (Ptr p) := fun w' hA' => by rw [cellOf (h.adds hA').box]; rfl
    rw [← q] at HC
    have HQ := hid q
    have HL := hid (And.intro hl hlen)
    have HAt := hid hA
    have HK := hid (And.intro hk (And.intro hc (And.intro h3 (And.intro hcp hc240))))
    clear h hk hc h3 hcp hc240 q hl hlen hA
    refine calls_marks Tryd.func41 rfl ?_
    simp only [Tryd.ntmps41, List.size_toArray, List.length_cons, List.length_nil, Nat.reduceAdd, Nat.reduceSub, Array.replicate_succ, Array.replicate_zero, List.push_toArray, List.append_toArray, List.nil_append, List.cons_append]
    go_upto_region 3 with (go_at_call 36; refine (HC.out _ ((Touch.refl _ w).alloc _)).mono ?_; rintro e w1 ⟨rfl, rfl⟩)
    obtain ⟨N6, hN6⟩ : ∃ N6, N6 = w.heap.size := ⟨_, rfl⟩
    obtain ⟨wA, hwA⟩ : ∃ wA, wA = w.alloc (Obj.cells #[Value.bool false] 4) := ⟨_, rfl⟩
    have H6 := hid (show Boxed wA N6 4 (.bool false) ∧ Adds w wA ∧ wA.heap.size = w.heap.size + 1 ∧ N6 = w.heap.size by rw [hwA, hN6]; exact ⟨Boxed.new w 4 _, (Touch.refl _ w).alloc _, by simp, rfl⟩)
    rw [← hwA, ← hN6]
    clear hN6 hwA
    have c1 : wA.drew.cell? ⟨sp, 0, none⟩ = some (Ptr p) := c0 _ H6.out.2.1.drew
    have c2 : ∀ o, (wA.drew.alloc o).cell? ⟨sp, 0, none⟩ = some (Ptr p) := fun o => c0 _ (H6.out.2.1.drew.alloc o)
    have c3 : ∀ o o', ((wA.drew.alloc o).alloc o').cell? ⟨sp, 0, none⟩ = some (Ptr p) := fun o o' => c0 _ ((H6.out.2.1.drew.alloc o).alloc o')
    have c4 : ∀ o, (wA.alloc o).drew.cell? ⟨sp, 0, none⟩ = some (Ptr p) := fun o => c0 _ (H6.out.2.1.alloc o).drew
    have c5 : ∀ o o', ((wA.alloc o).alloc o').drew.cell? ⟨sp, 0, none⟩ = some (Ptr p) := fun o o' => c0 _ ((H6.out.2.1.alloc o).alloc o').drew
    clear c0
    go_cut [7, 8] from 17 to 23 (fun v7 v8 wx => ∃ N M : Nat, v7 = .pointer (some ⟨N, 0, none⟩) ∧ v8 = .pointer (some ⟨M, 0, none⟩) ∧ Hid (Boxed wx N 3 (.int .i64 ((G.maps c : Nat) : Int)) ∧ Boxed wx M 3 (.int .i64 (c : Int)) ∧ Boxed wx N6 4 (.bool false) ∧ Adds w wx ∧ N6 < N ∧ N6 < M))
    case first =>
      go_region_with (first
        | (go_at_call 10; refine (HM.out _ (by first | exact H6.out.2.1.drew | exact (H6.out.2.1.alloc _).drew | exact ((H6.out.2.1.alloc _).alloc _).drew | exact H6.out.2.1.drew.alloc _ | exact (H6.out.2.1.drew.alloc _).alloc _)).mono ?_; rintro e w1 ⟨rfl, hw⟩; rw [hw]; clear hw)
        | (go_at_call 26; refine (HN.out _ (by first | exact H6.out.2.1.drew | exact (H6.out.2.1.alloc _).drew | exact ((H6.out.2.1.alloc _).alloc _).drew | exact H6.out.2.1.drew.alloc _ | exact (H6.out.2.1.drew.alloc _).alloc _)).mono ?_; rintro e w1 ⟨rfl, hw⟩; rw [hw]; clear hw))
      all_goals
        go_wp2_with fail
        go_meet
        first
          | exact ⟨_, _, rfl, rfl, (box2 wA 3 _ _).1, (box2 wA 3 _ _).2, (H6.out.1.alloc _).alloc _, ((H6.out.2.1.alloc _).alloc _).drew, by have := H6.out.2.2.1; have := H6.out.2.2.2; omega, by have := H6.out.2.2.1; have := H6.out.2.2.2; omega⟩
          | exact ⟨_, _, rfl, rfl, (box2 wA 3 _ _).2, (box2 wA 3 _ _).1, (H6.out.1.alloc _).alloc _, ((H6.out.2.1.alloc _).alloc _).drew, by have := H6.out.2.2.1; have := H6.out.2.2.2; omega, by have := H6.out.2.2.1; have := H6.out.2.2.2; omega⟩
    case rest =>
      obtain ⟨N, M, rfl, rfl, H7⟩ := hcut
      obtain ⟨wN, hwN⟩ : ∃ wN, wN = (wc.alloc (.cells #[.int .i64 (k : Int)] 3)).alloc (.cells #[.slice (some ⟨b, o, none⟩) len cap] 55) := ⟨_, rfl⟩
      have HB := hid (show Calls Tryd.prog 30 #[.int .i64 (k : Int), .slice (some ⟨b, o, none⟩) len cap] wc (fun e w' => e = .returned (.func (.func 43) #[] #[Ptr (wc.heap.size + 1), Ptr wc.heap.size]) ∧ w' = wN) by rw [hwN]; exact bits_any wc k _ ⟨_, _, _, rfl⟩)
      have HwN := hid hwN
      have hz := show wN.heap.size = wc.heap.size + 2 by rw [hwN]; simp
      have HAc := hid (HAt.out.adds H7.out.2.2.2.1)
      have H8 := hid (show Boxed wN N 3 (.int .i64 ((G.maps c : Nat) : Int)) ∧ Boxed wN M 3 (.int .i64 (c : Int)) ∧ Boxed wN N6 4 (.bool false) ∧ Below w.heap.size w wN by rw [hwN]; exact ⟨(H7.out.1.alloc _).alloc _, (H7.out.2.1.alloc _).alloc _, (H7.out.2.2.1.alloc _).alloc _, Adds.below ((H7.out.2.2.2.1.alloc _).alloc _)⟩)
      have hg : b < wc.heap.size := by
        obtain ⟨b', o', e, hc'⟩ := HAc.out 0 (bs[0]'(by have := HL.out.1; have := HQ.out; have := HK.out.2.2.2.1; omega)) (by simp)
        cases e
        exact World.block_lt_of_cell? wc _ hc'
      have h1w : w.heap.size ≤ wc.heap.size := H7.out.2.2.2.1.size
      clear hwN
      go_wp2_with (go_at_call 30; refine HB.out.mono ?_; rintro e w1 ⟨rfl, hw⟩; rw [hw]; clear hw)
      refine (wpIn_wide (n := 9)).1 (wpIn_rangeFunc_ownF (F := Fence.wide) (n := 9) rfl (by omega) (gf := 43) (lb := #[Ptr (wc.heap.size + 1), Ptr wc.heap.size]) rfl trivial (enters_of Tryd.func43 (by kernel_rfl) rfl)
        (bits_reads HwN.out HAc.out HL.out.1 (by rw [HQ.out]; exact HK.out.2.2.2.1) (by rw [HQ.out]; exact HK.out.2.2.2.2) (by have := HK.out.1; have := HK.out.2.2.1; omega) 8 (by omega)) (fun h k => kp3_t h k) (kp3_b (fun j hj => by simp at hj; omega)) (Below.refl _ _) (fun _ => rfl)
        (MayI c N M N6 w) (MayX c N6 w)
        (OwnFrom.and (ownFrom_pure _ _) (OwnFrom.and (Own.from (boxed_own N 3 (fun _ => _)) _) (OwnFrom.and (Own.from (boxed_own M 3 (fun _ => _)) _) (OwnFrom.and (Own.from (boxed_own N6 4 (fun _ => _)) _) (ownFrom_below (Nat.le_refl _) (by omega))))))
        (fun cd => OwnFrom.and (ownFrom_pure _ _) (OwnFrom.and (ownFrom_pure _ _) (OwnFrom.and (Own.from (boxed_own N6 4 (fun _ => _)) _) (ownFrom_below (Nat.le_refl _) (by omega)))))
        ⟨fun x hx => absurd hx List.not_mem_nil, H8.out⟩
        (fun x => { tmps := #[Ptr sp, Value.int IntKind.i64 (k : Int), Value.slice (some ⟨b, o, none⟩) len cap, undef, undef, undef, Value.pointer (some ⟨N6, 0, none⟩), Value.pointer (some ⟨N, 0, none⟩), Value.pointer (some ⟨M, 0, none⟩), .int .i64 (x.1 : Int), .bool x.2, Value.slice (some ⟨b, o, none⟩) len cap, Value.int IntKind.i64 (len : Int), Ptr sp, Value.int IntKind.i64 (k : Int), Value.int IntKind.i64 (len : Int), Value.bool false, u17, u18, u19, u20, u21, u22, u23, Value.int IntKind.i64 (k : Int), Value.slice (some ⟨b, o, none⟩) len cap, Value.func (Fn.func 43) #[] #[Ptr (wc.heap.size + 1), Ptr wc.heap.size], .int .i64 (x.1 : Int), .bool x.2, undef, undef, undef, undef, undef, undef, undef, undef, undef, undef, undef, undef, undef, undef, undef], defers := [] }) ?assign ?body ?done ?stop)
      case assign =>
        intro l x W K hK
        gi_wp2
        exact hK
      case body =>
        rintro l pre ⟨y, t⟩ W ⟨hw, b7, b8, b6, hB⟩ _
        have HW := hid (And.intro hw (And.intro b7 (And.intro b8 (And.intro b6 hB))))
        have c7 := b7.cell
        have c8 := b8.cell
        have c6 := b6.cell
        have f6 := b6.frozen
        clear hw b7 b8 b6 hB
        have HX := hid (show wrongX c (y, t) = ((decide (y < G.maps c) && !t) || (decide (c ≤ y) && t)) from rfl)
        have HSet := hid (fun (t : Bool) (ht : wrongX c (y, t) = true) => show KeepsOthers W (W.setCell ⟨N6, 0, none⟩ (.bool false)) ∧ MayX c N6 w .ret (pre ++ [(y, t)]) (W.setCell ⟨N6, 0, none⟩ (.bool false)) from
          ⟨KeepsOthers.setCell _ _ _, rfl, ⟨(y, t), by simp, ht⟩, HW.out.2.2.2.1.set _, HW.out.2.2.2.2.setCell (p := ⟨N6, 0, none⟩) (Nat.le_of_eq H6.out.2.2.2.symm) _⟩)
        have HOn := hid (fun (t : Bool) (ht : wrongX c (y, t) = false) => show KeepsOthers W W ∧ Kp3 [b, wc.heap.size, wc.heap.size + 1] W W ∧ MayI c N M N6 w (pre ++ [(y, t)]) W from
          ⟨KeepsOthers.refl _, fun _ _ => rfl, fun x hx => by
            rcases List.mem_append.1 hx with hx | hx
            · exact HW.out.1 x hx
            · rw [List.mem_singleton.1 hx]; exact ht, HW.out.2⟩)
        cases t
        · by_cases q1 : y < G.maps c
          · gi_wp2
            exact HSet.out _ (by rw [HX.out]; simp [q1])
          · by_cases q2 : c ≤ y
            · gi_wp2
              exact HOn.out _ (by rw [HX.out]; simp [q1])
            · gi_wp2
              exact HOn.out _ (by rw [HX.out]; simp [q1])
        · by_cases q1 : y < G.maps c
          · by_cases q2 : c ≤ y
            · gi_wp2
              exact HSet.out _ (by rw [HX.out]; simp [q2])
            · gi_wp2
              exact HOn.out _ (by rw [HX.out]; simp [q2])
          · by_cases q2 : c ≤ y
            · gi_wp2
              exact HSet.out _ (by rw [HX.out]; simp [q2])
            · gi_wp2
              exact HOn.out _ (by rw [HX.out]; simp [q2])
      case done =>
        rintro D xs W hD hS ⟨hw, b7, b8, b6, hB⟩ hK
        have hm : G.may c k bs = true := G.may_of (by rw [HL.out.1, HQ.out]) (fun i hi => by
          obtain ⟨b', e, hx⟩ := hS.2 i (by rw [← HL.out.1]; exact hi)
          have h2 := hw _ (List.mem_of_getElem? hx)
          rw [e] at h2
          exact h2)
        have HW := hid (And.intro b6 (And.intro hB (And.intro hK hD)))
        have c6 := b6.cell
        have f6 := b6.frozen
        rw [hm]
        clear b6 b7 b8 hB hK hw hS hD
        go_wp2_with fail
        have hK' := (KeepsOthers.setCell W ⟨N6, 0, none⟩ (.bool true)).same D _ HW.out.2.2.1 rfl
        refine ⟨by simp, .inl ⟨_, _, rfl, run_takeDeferred hK', ?_⟩⟩
        have hc5 := cell_kept (HW.out.1.set (.bool true)).cell (grownBy_putObj' _ D (.deferred none)) (fun r e => by cases e; exact ⟨_, hK', rfl⟩)
        refine ⟨.bool true, by simp [results, Tryd.f41, go_sem, hc5], by rw [hm], Touch.of_below ?_⟩
        exact (HW.out.2.1.setCell (p := ⟨N6, 0, none⟩) (Nat.le_of_eq H6.out.2.2.2.symm) _).trans (belowK_b (w := wN) (by omega) _ D _ _ HW.out.2.2.2 hK' rfl rfl)
      case stop =>
        rintro D cd pre W hD hSp ⟨rfl, hx, b6, hB⟩ hK
        have hm : G.may c k bs = false := by
          cases hq : G.may c k bs with
          | false => rfl
          | true =>
            obtain ⟨j, hj, hU⟩ := hSp
            obtain ⟨x, hx, hxw⟩ := hx
            obtain ⟨i, hi, rfl⟩ := List.mem_iff_getElem.1 hx
            obtain ⟨b', e, hx'⟩ := hU.2 i (by rw [hU.1] at hi; exact hi)
            rw [List.getElem?_eq_getElem hi] at hx'
            rw [Option.some.inj hx', e] at hxw
            have h2 := G.may_bit hq (i := i) (by rw [HL.out.1]; rw [hU.1] at hi; omega)
            rw [show wrongX c (fX k i (G.bit bs i)) = G.wrong c k bs i from rfl, h2] at hxw
            cases hxw
        have HW := hid (And.intro b6 (And.intro hB (And.intro hK hD)))
        rw [hm]
        clear b6 hB hK hx hSp hD
        refine (wpIn_wide (n := 9)).2 ?_
        go_wp2_with fail
        refine ⟨by simp, .inl ⟨_, _, rfl, run_takeDeferred HW.out.2.2.1, ?_⟩⟩
        have hc5 := cell_kept HW.out.1.cell (grownBy_putObj' _ D (.deferred none)) (fun r e => by cases e; exact ⟨_, HW.out.2.2.1, rfl⟩)
        refine ⟨.bool false, by simp [results, Tryd.f41, go_sem, hc5], rfl, Touch.of_below ?_⟩
        exact HW.out.2.1.trans (belowK_b (w := wN) (by omega) _ D _ _ HW.out.2.2.2 HW.out.2.2.1 rfl rfl)
  · have hm : G.may c k bs = false := by
      unfold G.may
      rw [hl]
      simp [q]
    have HC := hid (fun w' (hA' : Adds w w') => scell_any (h.adds hA') hc hk)
    have q' : ((len : Int) != ((G.cells c k : Nat) : Int)) = true := by simp; omega
    rw [hm]
    clear h hk hc h3 hcp hc240 q hl hlen hA hm
    refine calls_marks Tryd.func41 rfl ?_
    simp only [Tryd.ntmps41, List.size_toArray, List.length_cons, List.length_nil, Nat.reduceAdd, Nat.reduceSub, Array.replicate_succ, Array.replicate_zero, List.push_toArray, List.append_toArray, List.nil_append, List.cons_append]
    go_wp2_with (go_at_call 36; refine (HC.out _ ((Touch.refl _ w).alloc _)).mono ?_; rintro e w1 ⟨rfl, hw⟩; rw [hw]; clear hw)
    have hc5 : (w.alloc (Obj.cells #[Value.bool false] 4)).cell? ⟨w.heap.size, 0, none⟩ = some (.bool false) := (Boxed.new w 4 (.bool false)).cell
    exact ⟨.bool false, by simp [results, Tryd.f41, go_sem, hc5], rfl, (Touch.refl _ w).alloc _⟩
end Go.Proofs.YtokbiekdompaoaaDoor
