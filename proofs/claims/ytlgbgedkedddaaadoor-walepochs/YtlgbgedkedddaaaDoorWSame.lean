/- The reference's Same: the same groups? -/
import Derived.Test.YtlgbgedkedddaaaDoorWFull0
namespace Go.Proofs.YtlgbgedkedddaaaDoor
open Go.RowKit
set_option maxRecDepth 100000 in
theorem take_eq_next {β : Type} {x y : List β} {k : Nat} {a : β} (h : x.take k = y.take k) (hx : x[k]? = some a) (hy : y[k]? = some a) : x.take (k + 1) = y.take (k + 1) := by
  rw [List.take_add_one, List.take_add_one, h, hx, hy]
set_option maxRecDepth 100000 in
theorem pl_get {w : World} {Q : Nat → Prop} {a : Option Addr} {t : List Pl} (h : CQ w Q a (t.map GV)) (hg : ∀ g ∈ t, GQ w Q g) {k : Nat} (hk : k < t.length) : ∃ (x : Pl) (b o : Nat), t[k]? = some x ∧ GQ w Q x ∧ a = some ⟨b, o, none⟩ ∧ w.cell? ⟨b, o + k, none⟩ = some (.slice x.a x.l.length x.cap) := by
  have hx : t[k]? = some t[k] := List.getElem?_eq_getElem hk
  obtain ⟨b, o, e, _, hc⟩ := h k (GV t[k]) (by rw [List.getElem?_map, hx]; rfl)
  exact ⟨_, b, o, hx, hg _ (List.getElem_mem _), e, hc⟩
set_option maxRecDepth 100000 in
theorem part_get {w : World} {Q : Nat → Prop} {x : Pl} (h : GQ w Q x) {k : Nat} (hk : k < x.l.length) : ∃ (y : Part) (b o : Nat), x.bs[k]? = some y.bs ∧ At w y.a y.bs ∧ x.a = some ⟨b, o, none⟩ ∧ w.cell? ⟨b, o + k, none⟩ = some (.slice y.a y.bs.length y.cap) := by
  have hx : x.l[k]? = some x.l[k] := List.getElem?_eq_getElem hk
  obtain ⟨b, o, e, _, hc⟩ := h.at_ k (PV x.l[k]) (by rw [List.getElem?_map, hx]; rfl)
  exact ⟨_, b, o, by rw [Pl.bs, List.getElem?_map, hx]; rfl, (h.all _ (List.getElem_mem _)).at_.at, e, hc⟩
set_option maxRecDepth 100000 in
theorem pl_len (x : Pl) : x.bs.length = x.l.length := by simp [Pl.bs]
set_option maxRecDepth 100000 in
theorem same_no {t1 t2 : List Pl} {k : Nat} {x1 x2 : Pl} (h1 : t1[k]? = some x1) (h2 : t2[k]? = some x2) (h : x1.bs ≠ x2.bs) : ¬ t1.map Pl.bs = t2.map Pl.bs := fun e => by
  have e1 : (t1.map Pl.bs)[k]? = some x1.bs := by rw [List.getElem?_map, h1]; rfl
  rw [e, List.getElem?_map, h2] at e1
  exact h (by simpa using e1.symm)
set_option maxRecDepth 100000 in
set_option maxHeartbeats 4000000 in
theorem same8 {Q1 Q2 : Nat → Prop} (a1 a2 : Option Addr) (c1 c2 n1 n2 : Nat) (t1 t2 : List Pl) (w : World) (hn1 : t1.length = n1) (hn2 : t2.length = n2) (h1 : CQ w Q1 a1 (t1.map GV)) (g1 : ∀ g ∈ t1, GQ w Q1 g) (h2 : CQ w Q2 a2 (t2.map GV)) (g2 : ∀ g ∈ t2, GQ w Q2 g) (hb : n1 ≤ 1000000 ∧ n2 ≤ 1000000) (hm : (∀ g ∈ t1, g.l.length ≤ 1000000) ∧ ∀ g ∈ t2, g.l.length ≤ 1000000) :
    Calls Tryd.prog 21 #[.slice a1 n1 c1, .slice a2 n2 c2] w (Adding (.bool (decide (t1.map Pl.bs = t2.map Pl.bs))) w) := by
  by_cases hne : n1 = n2
  · subst hne
    have HG := hid (fun k (hk : k < n1) => pl_get h1 g1 (show k < t1.length by omega))
    have HG2 := hid (fun k (hk : k < n1) => pl_get h2 g2 (show k < t2.length by omega))
    have HL := hid (And.intro hn1 (And.intro hn2 hm))
    have hb1 := hb.1
    clear h1 g1 h2 g2 hn1 hn2 hb hm
    go_enter Tryd.func21, Tryd.ntmps21
    go_wp2_with fail
    go_loopw [5] (fun i wr => ∃ k : Nat, k ≤ n1 ∧ i = .int .i64 (k : Int) ∧ Hid ((t1.map Pl.bs).take k = (t2.map Pl.bs).take k ∧ Adds w wr)) (fun i _ => n1 - (intOf i).toNat)
    case atStart => exact ⟨0, Nat.zero_le _, rfl, rfl, Touch.refl _ _⟩
    case round =>
      obtain ⟨k, hk, rfl, HI⟩ := hrel
      by_cases hlt : k < n1
      · obtain ⟨x1, b1, o1, hx1, hq1, rfl, hc1⟩ := HG.out k hlt
        obtain ⟨x2, b2, o2, hx2, hq2, rfl, hc2⟩ := HG2.out k hlt
        have d1 : wr.cell? ⟨b1, o1 + k, none⟩ = some (.slice x1.a x1.l.length x1.cap) := below_adds HI.out.2 hc1
        have d2 : wr.cell? ⟨b2, o2 + k, none⟩ = some (.slice x2.a x2.l.length x2.cap) := below_adds HI.out.2 hc2
        obtain ⟨m1, hm1⟩ : ∃ m1, m1 = x1.l.length := ⟨_, rfl⟩
        obtain ⟨m2, hm2⟩ : ∃ m2, m2 = x2.l.length := ⟨_, rfl⟩
        have hm1b : m1 ≤ 1000000 := by rw [hm1]; exact HL.out.2.2.1 x1 (List.mem_of_getElem? hx1)
        have hm2b : m2 ≤ 1000000 := by rw [hm2]; exact HL.out.2.2.2 x2 (List.mem_of_getElem? hx2)
        rw [← hm1] at d1
        rw [← hm2] at d2
        have HX := hid (And.intro hx1 (And.intro hx2 (And.intro hq1 (And.intro hq2 (And.intro hm1 (And.intro hm2 (And.intro hc1 hc2)))))))
        clear hx1 hx2 hq1 hq2 hc1 hc2 HG HG2
        by_cases hmm : m1 = m2
        · subst hmm
          go_upto_region 6 with fail
          go_region
          go_wp2_with fail
          have HA2 := hid (show Adds w wr.drew from HI.out.2.drew)
          have hd1 : wr.drew.cell? ⟨b1, o1 + k, none⟩ = some (.slice x1.a m1 x1.cap) := d1
          have hd2 : wr.drew.cell? ⟨b2, o2 + k, none⟩ = some (.slice x2.a m1 x2.cap) := d2
          obtain ⟨wd, hwd⟩ : ∃ wd, wd = wr.drew := ⟨_, rfl⟩
          rw [← hwd]
          rw [← hwd] at HA2 hd1 hd2
          clear hwd d1 d2
          go_loopw [6] (fun j wz => ∃ q : Nat, q ≤ m1 ∧ j = .int .i64 (q : Int) ∧ Hid (x1.bs.take q = x2.bs.take q ∧ Adds wd wz)) (fun j _ => m1 - (intOf j).toNat)
          case atStart => exact ⟨0, Nat.zero_le _, rfl, rfl, Touch.refl _ _⟩
          case round =>
            obtain ⟨q, hq, rfl, HJ⟩ := hrel
            have k1 := below_adds HJ.out.2 hd1
            have k2 := below_adds HJ.out.2 hd2
            by_cases hql : q < m1
            · obtain ⟨y1, e1, f1, hy1, at1, ha1, hcy1⟩ := part_get HX.out.2.2.1 (k := q) (by rw [← HX.out.2.2.2.2.1]; exact hql)
              obtain ⟨y2, e2, f2, hy2, at2, ha2, hcy2⟩ := part_get HX.out.2.2.2.1 (k := q) (by rw [← HX.out.2.2.2.2.2.1]; exact hql)
              rw [ha1] at k1
              rw [ha2] at k2
              have r1 := below_adds (HA2.out.trans HJ.out.2) hcy1
              have r2 := below_adds (HA2.out.trans HJ.out.2) hcy2
              have v1 := conv_at wr.drew y1.a y1.bs y1.cap ((at1.adds (HA2.out.trans HJ.out.2)).adds (Touch.refl _ wr).drew)
              have v2 := conv_at wr.drew y2.a y2.bs y2.cap ((at2.adds (HA2.out.trans HJ.out.2)).adds (Touch.refl _ wr).drew)
              have HY := hid (And.intro hy1 hy2)
              clear hy1 hy2 at1 at2 hcy1 hcy2 ha1 ha2
              by_cases hs : y1.bs = y2.bs
              · have hss : (y1.bs == y2.bs) = true := by rw [hs]; simp
                have HS := hid hs
                clear hs
                go_upto_region 11 with fail
                go_region
                go_wp2_with fail
                go_roundw
                case rel => exact ⟨q + 1, by omega, by go_num, take_eq_next HJ.out.1 HY.out.1 (by rw [HS.out]; exact HY.out.2), HJ.out.2.drew⟩
                case measure => simp [intOf]; omega
              · have hss : (y1.bs == y2.bs) = false := by simpa using hs
                have HS := hid hs
                clear hs
                go_upto_region 11 with fail
                go_region
                go_wp2_with fail
                go_ret
                refine ⟨?_, (HA2.out.trans HJ.out.2).drew⟩
                rw [decide_eq_false (same_no HX.out.1 HX.out.2.1 (fun e => HS.out (by have q1 := HY.out.1; rw [e, HY.out.2] at q1; simpa using q1.symm)))]
                rfl
            · obtain rfl : q = m1 := by omega
              go_wp2_with fail
              go_roundw
              case rel =>
                have e : x1.bs = x2.bs := by
                  have q1 := HJ.out.1
                  rw [List.take_of_length_le (by rw [pl_len, ← HX.out.2.2.2.2.1]; exact Nat.le_refl _), List.take_of_length_le (by rw [pl_len, ← HX.out.2.2.2.2.2.1]; exact Nat.le_refl _)] at q1
                  exact q1
                exact ⟨k + 1, by omega, by go_num, take_eq_next HI.out.1 (by rw [List.getElem?_map, HX.out.1]; rfl) (by rw [List.getElem?_map, HX.out.2.1, e]; rfl), HA2.out.trans HJ.out.2⟩
              case measure => simp [intOf]; omega
        · have hmm' : (m1 != m2) = true := by simpa using hmm
          go_upto_region 6 with fail
          go_region
          go_wp2_with fail
          go_ret
          refine ⟨?_, (HI.out.2.drew)⟩
          rw [decide_eq_false (same_no HX.out.1 HX.out.2.1 (fun e => hmm (by rw [HX.out.2.2.2.2.1, HX.out.2.2.2.2.2.1, ← pl_len x1, ← pl_len x2, e])))]
          rfl
      · obtain rfl : k = n1 := by omega
        go_wp2_with fail
        go_ret
        refine ⟨?_, HI.out.2⟩
        have e : t1.map Pl.bs = t2.map Pl.bs := by
          have q := HI.out.1
          rw [List.take_of_length_le (by rw [List.length_map, HL.out.1]; exact Nat.le_refl _), List.take_of_length_le (by rw [List.length_map, HL.out.2.1]; exact Nat.le_refl _)] at q
          exact q
        rw [decide_eq_true e]
        rfl
  · have e : ¬ t1.map Pl.bs = t2.map Pl.bs := fun e => hne (by have q := congrArg List.length e; rw [List.length_map, List.length_map, hn1, hn2] at q; exact q)
    have HE := hid e
    have hne' : (n1 != n2) = true := by simpa using hne
    clear e h1 g1 h2 g2 hm
    go_enter Tryd.func21, Tryd.ntmps21
    go_wp2_with fail
    go_ret
    exact ⟨by rw [decide_eq_false HE.out]; rfl, Touch.refl _ _⟩
end Go.Proofs.YtlgbgedkedddaaaDoor
