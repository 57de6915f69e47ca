/- The cells that stand in a page's room: page.cut. -/
import Derived.Test.YtidkmamjhpckgaaDoorPIdx
import Derived.Deep.RegionHeld3
namespace Go.Proofs.YtidkmamjhpckgaaDoor
open Go.RowKit

set_option maxRecDepth 100000 in
theorem fixedR_ok {z : Int} {k : Nat} {l : List UInt8} (hz : M.clamp z = k) (hl : k ≤ l.length) : M.fixedR z ⟨0, l⟩ = (M.unfix (l.take k), ⟨0, l.drop k⟩) := by
  rw [M.fixedR, hz, M.takeR_ok rfl (by show ¬ l.length < k; omega)]
set_option maxRecDepth 100000 in
theorem run_suf_at (b o len cap n : Nat) (hn : n ≤ len) (hc : n < cap) (w : World) : (Instr.sliceAt 22 (.slice (some ⟨b, o, none⟩) len cap) (some (.int .i64 (n : Int))) none none).run Tryd.prog w = .ok (.slice (some ⟨b, o + n, none⟩) (len - n) (cap - n)) w := by
  rw [run_suf _ _ _ _ hn, sufAt, if_neg (by omega)]
  simp [Addr.add_mid]
set_option maxRecDepth 100000 in
theorem run_mid_at (b o len cap l h : Nat) (h1 : l ≤ h) (h2 : h ≤ cap) (h3 : l < cap) (w : World) : (Instr.sliceAt 22 (.slice (some ⟨b, o, none⟩) len cap) (some (.int .i64 (l : Int))) (some (.int .i64 (h : Int))) none).run Tryd.prog w = .ok (.slice (some ⟨b, o + l, none⟩) (h - l) (cap - l)) w := by
  have hsz : (sizeOf 5).run Tryd.prog w = .ok 1 w := by kernel_rfl
  rw [run_sliceAt_slice w 22 _ _ _ _ Tryd.underlying22, run_slice_lh w 22 _ len cap Tryd.underlying22 .i64 .i64 l h (by omega) (by omega) (by omega)]
  have he : Tryd.prog.elem 22 = 5 := by kernel_rfl
  rw [he, hsz]
  simp only [Result.andThen, sliced, Int.toNat_natCast, Nat.mul_one]
  rw [if_neg (by omega)]
  simp [Addr.add_mid]
set_option maxRecDepth 100000 in
theorem make_cells (n : Nat) (hn : n ≤ 1000000) (w : World) : (Instr.makeSlice 32 (.int .i64 0) (.int .i64 (n : Int))).run Tryd.prog w = .ok (.slice (some ⟨w.heap.size, 0, none⟩) 0 n) (w.alloc (.cells (madeCells #[.slice none 0 0] n) 22)) := by
  obtain ⟨i0, hi, hz0, hz1, hz2⟩ := infoB
  have := run_make (P := Tryd.prog) w 32 22 i0 (.slice none 0 0) Tryd.underlying32 hi hz0 .i64 .i64 0 (n : Int) (by decide) (by omega) (by rw [hz2]; omega) (by omega)
  rw [this, hz1, Int.toNat_natCast, Nat.mul_one]
  rfl
/-- What cut tells: the cells, as parts of the room. -/
def PCut (w : World) (b : Nat) (rm : List UInt8) (n t : Nat) (e : Ending) (w' : World) : Prop := ∃ va vn vc, e = .returned (.tuple #[.slice va vn vc, .bool (M.cutC rm n t).isSome]) ∧ Hid (Adds w w' ∧ ∀ cs, M.cutC rm n t = some cs → ∃ hs : List Part, hs.map (·.bs) = cs ∧ vn = hs.length ∧ GQ w' (fun k => k = b ∨ w.heap.size ≤ k) ⟨va, vc, hs⟩ ∧ hs.length ≤ vc)
set_option maxRecDepth 100000 in
set_option maxHeartbeats 1000000 in
theorem gcut_any (b o : Nat) (rm : List UInt8) (cap n t : Nat) (w : World) (hl : rm.length = 244) (hc : 248 ≤ cap) (hA : At w (some ⟨b, o, none⟩) rm) (hn : n ≤ 255) (ht : t ≤ 65535) :
    Calls Tryd.prog 31 #[.slice (some ⟨b, o, none⟩) 244 cap, .int .i64 (n : Int), .int .i64 (t : Int)] w (PCut w b rm n t) := by
  by_cases hbig : 244 < 2 * n + t
  · have HC := hid (show M.cutC rm n t = none by rw [M.cutC, if_pos hbig])
    have h1 : (244 : Int) < 2 * (n : Int) + (t : Int) := by omega
    clear hA hl
    go_enter Tryd.func31, Tryd.ntmps31
    go_wp2_with fail
    go_ret2
    refine ⟨none, 0, 0, by rw [HC.out]; rfl, Touch.refl _ _, fun cs h => ?_⟩
    rw [HC.out] at h
    cases h
  · have h1 : ¬ (244 : Int) < 2 * (n : Int) + (t : Int) := by omega
    have HR := hid (fun w' (hA' : Adds w w') => show Calls Tryd.prog 28 #[.slice (some ⟨b, o, none⟩) (2 * n) cap] w' (PRead w' (rm.take (2 * n))) by
      have q := read_any (some ⟨b, o, none⟩) (rm.take (2 * n)) cap w' (by rw [List.length_take]; omega) (fun e => by cases e) ((hA.pre _).adds hA')
      rw [List.length_take, show min (2 * n) rm.length = 2 * n by omega] at q
      exact q)
    have HA := hid hA
    obtain ⟨m, hm⟩ : ∃ m, m = 2 * n := ⟨_, rfl⟩
    have hw1 : IntKind.i64.wrap (2 * (n : Int)) = (m : Int) := by rw [IntKind.wrap_i64]; omega
    have hs1 := run_pre (some ⟨b, o, none⟩) 244 cap m (by omega)
    have hs2 := run_suf_at b o 244 cap m (by omega) (by omega)
    rw [← hm] at HR
    have HM := hid hm
    have h2 : ¬ (244 : Int) < (m : Int) + (t : Int) := by omega
    have h3 : m ≤ 244 := by omega
    have h4 : t ≤ 244 - m := by omega
    clear hA hm h1 hbig
    have hmk := make_cells n (by omega)
    go_enter Tryd.func31, Tryd.ntmps31
    go_upto_region 3 with fail
    go_region_held3 (fun _ => True) (trivial) (first | (go_at_call 28; refine (HR.out _ ((Touch.refl _ w).drew)).mono ?_; rintro e w1 ⟨p, rfl, hp, hr, hA1⟩; have H1 := hid (And.intro hp (And.intro hr hA1)); clear hp hr hA1))
    go_wp2_with fail
    have HO := hid (show (w1.alloc (.cells (madeCells #[.slice none 0 0] n) 22)).ownsRow 0 22 1 (.slice (some ⟨w1.heap.size, 0, none⟩) 0 n) 0 [] from World.ownsRow_made (base := 0) (e := 22) (size := 1) w1 (madeCells #[.slice none 0 0] n) n (Nat.zero_le _) (by unfold maxLen; omega) (by rw [size_madeCells, Nat.mul_one]))
    clear hmk hs1 hs2 hw1 HR
    go_loopw [10, 11, 32] (fun v bg i wr => ∃ (k bn : Nat) (hs : List Part), k ≤ n ∧ bn ≤ t ∧ i = .int .i64 (k : Int) ∧ bg = .int .i64 (bn : Int) ∧ hs.length = k ∧ Hid (M.cutK (rm.take m) (rm.drop m) t k = some (hs.map (·.bs), bn) ∧ wr.ownsRow 0 22 1 v k (hs.map PV) ∧ (∀ j, v.ownBlock = some j → p < j) ∧ (∀ x ∈ hs, PQ w (fun k => k = b) x) ∧ RD wr (Ptr p) ⟨0, (rm.take m).drop (2 * k)⟩ ∧ Adds w wr)) (fun _ _ i _ => n - (intOf i).toNat)
    case atStart => exact ⟨0, 0, [], Nat.zero_le _, Nat.zero_le _, rfl, rfl, rfl, rfl, HO.out, fun j hj => by simp [Value.ownBlock] at hj; subst hj; exact H1.out.2.1.lt, fun x hx => (by cases hx), H1.out.2.1.adds ((Touch.refl _ w1).alloc _), (((Touch.refl _ w).drew).trans H1.out.2.2).alloc _⟩
    case round =>
      obtain ⟨k, bn, hs, hk, hbn, rfl, rfl, hlen, HI⟩ := hrel
      by_cases hlt : k < n
      · obtain ⟨en, hen⟩ : ∃ en, en = M.unfix (((rm.take m).drop (2 * k)).take 2) := ⟨_, rfl⟩
        have h2l : (((rm.take m).drop (2 * k)).take 2).length = 2 := by rw [List.length_take, List.length_drop, List.length_take]; have := HM.out; omega
        have he16 : en ≤ 65535 := by have := (M.fix_unfix 2 _ h2l).2; rw [← hen] at this; omega
        have HX := hid (show Calls Tryd.prog 29 #[Ptr p, .int .i64 2] wr (PR wr (Ptr p) (.int .u64 (en : Int)) ⟨0, (rm.take m).drop (2 * (k + 1))⟩) by
          have q := fixed_any 2 HI.out.2.2.2.2.1
          rw [fixedR_ok (k := 2) (by decide) (by rw [List.length_drop, List.length_take]; have := HM.out; omega), ← hen, List.drop_drop, show 2 * k + 2 = 2 * (k + 1) by omega] at q
          exact q)
        have HE := hid hen
        have HL := hid hlen
        clear hen h2l hlen
        by_cases hb1 : en < bn
        · have HC := hid (show M.cutC rm n t = none by
            have q := M.cutK_bad HI.out.1 (.inl (by rw [← HE.out]; exact hb1))
            rw [M.cutC, if_neg (by have := HM.out; omega), ← HM.out, M.cutK_none' q (by omega)])
          go_wp2_with (first | (go_at_call 29; refine HX.out.mono ?_; rintro e w3 ⟨rfl, hr3, hT3⟩; have H3 := hid hT3; clear hr3 hT3))
          go_ret2
          refine ⟨none, 0, 0, by rw [HC.out]; rfl, Adds.own HI.out.2.2.2.2.2 H3.out H1.out.1, fun cs h => ?_⟩
          rw [HC.out] at h
          cases h
        · by_cases hb2 : t < en
          · have HC := hid (show M.cutC rm n t = none by
              have q := M.cutK_bad HI.out.1 (.inr (by rw [← HE.out]; exact hb2))
              rw [M.cutC, if_neg (by have := HM.out; omega), ← HM.out, M.cutK_none' q (by omega)])
            go_wp2_with (first | (go_at_call 29; refine HX.out.mono ?_; rintro e w3 ⟨rfl, hr3, hT3⟩; have H3 := hid hT3; clear hr3 hT3))
            go_ret2
            refine ⟨none, 0, 0, by rw [HC.out]; rfl, Adds.own HI.out.2.2.2.2.2 H3.out H1.out.1, fun cs h => ?_⟩
            rw [HC.out] at h
            cases h
          · have hs3 := run_mid_at b (o + m) (244 - m) (cap - m) bn en (by omega) (by omega) (by omega)
            have hPL : en - bn = (((rm.drop m).drop bn).take (en - bn)).length := by rw [List.length_take, List.length_drop, List.length_drop]; omega
            obtain ⟨PL, hPL0⟩ : ∃ PL, PL = en - bn := ⟨_, rfl⟩
            rw [← hPL0] at hs3 hPL
            have HP := hid (And.intro hPL hPL0)
            have HK := hid (show M.cutK (rm.take m) (rm.drop m) t (k + 1) = some (hs.map (·.bs) ++ [((rm.drop m).drop bn).take PL], en) by
              have q := M.cutK_more HI.out.1 (by rw [← HE.out]; show ¬ (en < bn ∨ t < en); omega)
              rw [← HE.out] at q
              rw [hPL0]; exact q)
            have HQ := hid (show PQ w (fun k => k = b) ⟨some ⟨b, o + m + bn, none⟩, ((rm.drop m).drop bn).take PL, cap - m - bn⟩ from
              ⟨(((HA.out.suf m).suf bn).pre PL).cq (fun b' o' e => by cases e; rfl), fun e => (by cases e)⟩)
            clear hPL hPL0
            go_wp2_with (first
              | (go_at_call 29; refine HX.out.mono ?_; rintro e w3 ⟨rfl, hr3, hT3⟩
                 have H3 := hid (And.intro hr3 hT3)
                 have HA3 := hid (fun o => show (w3.alloc o).ownsRow 0 22 1 u10 k (hs.map PV) from row_touch (row_touch HI.out.2.1 hT3 (fun j hj c => by have := HI.out.2.2.1 j hj; simp only [Own1, Value.pointer.injEq, Option.some.injEq, Addr.mk.injEq] at c; omega)) ((Touch.refl _ w3).alloc o) (fun _ _ => id))
                 clear hr3 hT3)
              | (at_builtin; refine append_b1 rfl _ _ rfl u10 k (hs.map PV) rfl (HA3.out _) w3.heap.size (.slice (some ⟨b, o + m + bn, none⟩) PL (cap - m - bn)) rfl (cellOf (heap_alloc_new w3 _) 0) rfl (by omega) ?_; intro v5 w5 G5; have HG := hid G5; clear G5))
            go_roundw
            case rel =>
              have hp3 : p < w3.heap.size := H3.out.1.lt
              have hw3 : Adds w w3 := Adds.own HI.out.2.2.2.2.2 H3.out.2 H1.out.1
              have hv : ∀ j, u10.ownBlock = some j → p < j := HI.out.2.2.1
              refine ⟨k + 1, en, hs ++ [⟨some ⟨b, o + m + bn, none⟩, ((rm.drop m).drop bn).take PL, cap - m - bn⟩], by omega, by omega, by go_num, by go_num, by simp [HL.out], ?_, ?_, ?_, ?_, ?_, ?_⟩
              · rw [List.map_append]; exact HK.out
              · have q := HG.out.1
                rw [List.map_append]
                show w5.ownsRow 0 22 1 v5 (k + 1) (hs.map PV ++ [.slice (some ⟨b, o + m + bn, none⟩) (((rm.drop m).drop bn).take PL).length (cap - m - bn)])
                rw [← HP.out.1]; exact q
              · intro j hj
                rcases HG.out.2.2 with c | c
                · exact hv j (by rw [← c]; exact hj)
                · rw [c] at hj; cases hj; simp; omega
              · intro x hx
                rcases List.mem_append.1 hx with hx | hx
                · exact HI.out.2.2.2.1 x hx
                · rw [List.mem_singleton.1 hx]; exact HQ.out
              · exact (H3.out.1.above ((Touch.refl (fun _ => False) w3).alloc _) (fun _ c => c.elim)).above HG.out.touch (fun j c => hv j c)
              · exact (hw3.alloc _).then HG.out.touch (fun j hj c => by have := hv j c; have := H1.out.1; simp at this; omega)
            case measure => simp [intOf]; omega
      · obtain rfl : k = n := by omega
        obtain ⟨va, vc, hv10, hle, hnon, hq⟩ := own_cq HI.out.2.1
        subst hv10
        have HV := hid (show ∃ hs' : List Part, hs'.map (·.bs) = hs.map (·.bs) ∧ k = hs'.length ∧ GQ wr (fun k => k = b ∨ w.heap.size ≤ k) ⟨va, vc, hs'⟩ ∧ hs'.length ≤ vc from ⟨hs, rfl, hlen.symm, ⟨hq.mono (fun j _ c => .inr (by have h1 := HI.out.2.2.1 j c; have h2 := H1.out.1; simp at h2; omega)), hnon, fun x hx => ((HI.out.2.2.2.1 x hx).adds HI.out.2.2.2.2.2).mono (fun _ _ c => .inl c)⟩, by omega⟩)
        clear hq hnon hlen hle
        by_cases hbt : bn = t
        · subst hbt
          have hs4 := run_suf_at b (o + m) (244 - m) (cap - m) bn (by omega) (by omega)
          have hrl : ((rm.drop m).drop bn).length = 244 - m - bn := by rw [List.length_drop, List.length_drop]; omega
          have HN := hid (show Calls Tryd.prog 42 #[.slice (some ⟨b, o + m + bn, none⟩) (244 - m - bn) (cap - m - bn), .func (.func 43) #[] #[]] wr (Tells (.bool (M.some0 ((rm.drop m).drop bn))) wr) by
            have q := contains_any (some ⟨b, o + m + bn, none⟩) ((rm.drop m).drop bn) (cap - m - bn) wr ((((HA.out.suf m).suf bn)).adds HI.out.2.2.2.2.2) (by omega)
            rw [hrl] at q
            exact q)
          obtain ⟨z, hz⟩ : ∃ z, z = M.some0 ((rm.drop m).drop bn) := ⟨_, rfl⟩
          rw [← hz] at HN
          have HC := hid (show M.cutC rm k bn = if z = false then some (hs.map (·.bs)) else none by
            rw [M.cutC, if_neg (by have := HM.out; omega), ← HM.out, HI.out.1]
            simp only
            rw [← hz]
            simp)
          clear hz hrl
          cases z with
          | false =>
            go_wp2_with (first | (go_at_call 42; refine HN.out.mono ?_; rintro e _ ⟨rfl, hw⟩; rw [hw]; clear hw))
            go_ret2
            refine ⟨va, k, vc, by rw [HC.out]; rfl, HI.out.2.2.2.2.2, fun cs h => ?_⟩
            rw [HC.out] at h
            cases h
            exact HV.out
          | true =>
            go_wp2_with (first | (go_at_call 42; refine HN.out.mono ?_; rintro e _ ⟨rfl, hw⟩; rw [hw]; clear hw))
            go_ret2
            refine ⟨va, k, vc, by rw [HC.out]; rfl, HI.out.2.2.2.2.2, fun cs h => ?_⟩
            rw [HC.out] at h
            cases h
        · have hbt' : ((bn : Int) == (t : Int)) = false := by simp; omega
          have HC := hid (show M.cutC rm k t = none by
            rw [M.cutC, if_neg (by have := HM.out; omega), ← HM.out, HI.out.1]
            simp only
            rw [if_neg (fun c => hbt c.1)])
          go_wp2_with fail
          go_ret2
          refine ⟨va, k, vc, by rw [HC.out]; rfl, HI.out.2.2.2.2.2, fun cs h => ?_⟩
          rw [HC.out] at h
          cases h
end Go.Proofs.YtidkmamjhpckgaaDoor
