/- Texts put together: WSame, WELaw, WEp0, WEp1, WEp2, WEp3. -/
import Derived.Test.YtllkplanjfnnmaaDoorQ31
import Derived.Test.YtllkplanjfnnmaaDoorQ34
import Derived.Test.YtllkplanjfnnmaaDoorQ20
import Derived.Test.YtllkplanjfnnmaaDoorQ17
/- The reference's Same: the same groups? -/
namespace Go.Proofs.YtllkplanjfnnmaaDoor
open Go.RowKit
set_option maxRecDepth 100000 in
theorem take_eq_next {β : Type} {x y : List β} {k : Nat} {a : β} (h : x.take k = y.take k) (hx : x[k]? = some a) (hy : y[k]? = some a) : x.take (k + 1) = y.take (k + 1) := by
  rw [List.take_add_one, List.take_add_one, h, hx, hy]
set_option maxRecDepth 100000 in
theorem pl_get {w : World} {Q : Nat → Prop} {a : Option Addr} {t : List Pl} (h : CQ w Q a (t.map GV)) (hg : ∀ g ∈ t, GQ w Q g) {k : Nat} (hk : k < t.length) : ∃ (x : Pl) (b o : Nat), t[k]? = some x ∧ GQ w Q x ∧ a = some ⟨b, o, none⟩ ∧ w.cell? ⟨b, o + k, none⟩ = some (.slice x.a x.l.length x.cap) := by
  have hx : t[k]? = some t[k] := List.getElem?_eq_getElem hk
  obtain ⟨b, o, e, _, hc⟩ := h k (GV t[k]) (by rw [List.getElem?_map, hx]; rfl)
  exact ⟨_, b, o, hx, hg _ (List.getElem_mem _), e, hc⟩
set_option maxRecDepth 100000 in
theorem part_get {w : World} {Q : Nat → Prop} {x : Pl} (h : GQ w Q x) {k : Nat} (hk : k < x.l.length) : ∃ (y : Part) (b o : Nat), x.bs[k]? = some y.bs ∧ At w y.a y.bs ∧ x.a = some ⟨b, o, none⟩ ∧ w.cell? ⟨b, o + k, none⟩ = some (.slice y.a y.bs.length y.cap) := by
  have hx : x.l[k]? = some x.l[k] := List.getElem?_eq_getElem hk
  obtain ⟨b, o, e, _, hc⟩ := h.at_ k (PV x.l[k]) (by rw [List.getElem?_map, hx]; rfl)
  exact ⟨_, b, o, by rw [Pl.bs, List.getElem?_map, hx]; rfl, (h.all _ (List.getElem_mem _)).at_.at, e, hc⟩
set_option maxRecDepth 100000 in
theorem pl_len (x : Pl) : x.bs.length = x.l.length := by simp [Pl.bs]
set_option maxRecDepth 100000 in
theorem same_no {t1 t2 : List Pl} {k : Nat} {x1 x2 : Pl} (h1 : t1[k]? = some x1) (h2 : t2[k]? = some x2) (h : x1.bs ≠ x2.bs) : ¬ t1.map Pl.bs = t2.map Pl.bs := fun e => by
  have e1 : (t1.map Pl.bs)[k]? = some x1.bs := by rw [List.getElem?_map, h1]; rfl
  rw [e, List.getElem?_map, h2] at e1
  exact h (by simpa using e1.symm)
set_option maxRecDepth 100000 in
set_option maxHeartbeats 4000000 in
theorem same8 {Q1 Q2 : Nat → Prop} (a1 a2 : Option Addr) (c1 c2 n1 n2 : Nat) (t1 t2 : List Pl) (w : World) (hn1 : t1.length = n1) (hn2 : t2.length = n2) (h1 : CQ w Q1 a1 (t1.map GV)) (g1 : ∀ g ∈ t1, GQ w Q1 g) (h2 : CQ w Q2 a2 (t2.map GV)) (g2 : ∀ g ∈ t2, GQ w Q2 g) (hb : n1 ≤ 1000000 ∧ n2 ≤ 1000000) (hm : (∀ g ∈ t1, g.l.length ≤ 1000000) ∧ ∀ g ∈ t2, g.l.length ≤ 1000000) :
    Calls Tryd.prog 21 #[.slice a1 n1 c1, .slice a2 n2 c2] w (Adding (.bool (decide (t1.map Pl.bs = t2.map Pl.bs))) w) := by
  by_cases hne : n1 = n2
  · subst hne
    have HG := hid (fun k (hk : k < n1) => pl_get h1 g1 (show k < t1.length by omega))
    have HG2 := hid (fun k (hk : k < n1) => pl_get h2 g2 (show k < t2.length by omega))
    have HL := hid (And.intro hn1 (And.intro hn2 hm))
    have hb1 := hb.1
    clear h1 g1 h2 g2 hn1 hn2 hb hm
    go_enter Tryd.func21, Tryd.ntmps21
    go_wp2_with fail
    go_loopw [5] (fun i wr => ∃ k : Nat, k ≤ n1 ∧ i = .int .i64 (k : Int) ∧ Hid ((t1.map Pl.bs).take k = (t2.map Pl.bs).take k ∧ Adds w wr)) (fun i _ => n1 - (intOf i).toNat)
    case atStart => exact ⟨0, Nat.zero_le _, rfl, rfl, Touch.refl _ _⟩
    case round =>
      obtain ⟨k, hk, rfl, HI⟩ := hrel
      by_cases hlt : k < n1
      · obtain ⟨x1, b1, o1, hx1, hq1, rfl, hc1⟩ := HG.out k hlt
        obtain ⟨x2, b2, o2, hx2, hq2, rfl, hc2⟩ := HG2.out k hlt
        have d1 : wr.cell? ⟨b1, o1 + k, none⟩ = some (.slice x1.a x1.l.length x1.cap) := below_adds HI.out.2 hc1
        have d2 : wr.cell? ⟨b2, o2 + k, none⟩ = some (.slice x2.a x2.l.length x2.cap) := below_adds HI.out.2 hc2
        obtain ⟨m1, hm1⟩ : ∃ m1, m1 = x1.l.length := ⟨_, rfl⟩
        obtain ⟨m2, hm2⟩ : ∃ m2, m2 = x2.l.length := ⟨_, rfl⟩
        have hm1b : m1 ≤ 1000000 := by rw [hm1]; exact HL.out.2.2.1 x1 (List.mem_of_getElem? hx1)
        have hm2b : m2 ≤ 1000000 := by rw [hm2]; exact HL.out.2.2.2 x2 (List.mem_of_getElem? hx2)
        rw [← hm1] at d1
        rw [← hm2] at d2
        have HX := hid (And.intro hx1 (And.intro hx2 (And.intro hq1 (And.intro hq2 (And.intro hm1 (And.intro hm2 (And.intro hc1 hc2)))))))
        clear hx1 hx2 hq1 hq2 hc1 hc2 HG HG2
        by_cases hmm : m1 = m2
        · subst hmm
          go_upto_region 6 with fail
          go_region
          go_wp2_with fail
          have HA2 := hid (show Adds w wr.drew from HI.out.2.drew)
          have hd1 : wr.drew.cell? ⟨b1, o1 + k, none⟩ = some (.slice x1.a m1 x1.cap) := d1
          have hd2 : wr.drew.cell? ⟨b2, o2 + k, none⟩ = some (.slice x2.a m1 x2.cap) := d2
          obtain ⟨wd, hwd⟩ : ∃ wd, wd = wr.drew := ⟨_, rfl⟩
          rw [← hwd]
          rw [← hwd] at HA2 hd1 hd2
          clear hwd d1 d2
          go_loopw [6] (fun j wz => ∃ q : Nat, q ≤ m1 ∧ j = .int .i64 (q : Int) ∧ Hid (x1.bs.take q = x2.bs.take q ∧ Adds wd wz)) (fun j _ => m1 - (intOf j).toNat)
          case atStart => exact ⟨0, Nat.zero_le _, rfl, rfl, Touch.refl _ _⟩
          case round =>
            obtain ⟨q, hq, rfl, HJ⟩ := hrel
            have k1 := below_adds HJ.out.2 hd1
            have k2 := below_adds HJ.out.2 hd2
            by_cases hql : q < m1
            · obtain ⟨y1, e1, f1, hy1, at1, ha1, hcy1⟩ := part_get HX.out.2.2.1 (k := q) (by rw [← HX.out.2.2.2.2.1]; exact hql)
              obtain ⟨y2, e2, f2, hy2, at2, ha2, hcy2⟩ := part_get HX.out.2.2.2.1 (k := q) (by rw [← HX.out.2.2.2.2.2.1]; exact hql)
              rw [ha1] at k1
              rw [ha2] at k2
              have r1 := below_adds (HA2.out.trans HJ.out.2) hcy1
              have r2 := below_adds (HA2.out.trans HJ.out.2) hcy2
              have v1 := conv_at wr.drew y1.a y1.bs y1.cap ((at1.adds (HA2.out.trans HJ.out.2)).adds (Touch.refl _ wr).drew)
              have v2 := conv_at wr.drew y2.a y2.bs y2.cap ((at2.adds (HA2.out.trans HJ.out.2)).adds (Touch.refl _ wr).drew)
              have HY := hid (And.intro hy1 hy2)
              clear hy1 hy2 at1 at2 hcy1 hcy2 ha1 ha2
              by_cases hs : y1.bs = y2.bs
              · have hss : (y1.bs == y2.bs) = true := by rw [hs]; simp
                have HS := hid hs
                clear hs
                go_upto_region 11 with fail
                go_region
                go_wp2_with fail
                go_roundw
                case rel => exact ⟨q + 1, by omega, by go_num, take_eq_next HJ.out.1 HY.out.1 (by rw [HS.out]; exact HY.out.2), HJ.out.2.drew⟩
                case measure => simp [intOf]; omega
              · have hss : (y1.bs == y2.bs) = false := by simpa using hs
                have HS := hid hs
                clear hs
                go_upto_region 11 with fail
                go_region
                go_wp2_with fail
                go_ret
                refine ⟨?_, (HA2.out.trans HJ.out.2).drew⟩
                rw [decide_eq_false (same_no HX.out.1 HX.out.2.1 (fun e => HS.out (by have q1 := HY.out.1; rw [e, HY.out.2] at q1; simpa using q1.symm)))]
                rfl
            · obtain rfl : q = m1 := by omega
              go_wp2_with fail
              go_roundw
              case rel =>
                have e : x1.bs = x2.bs := by
                  have q1 := HJ.out.1
                  rw [List.take_of_length_le (by rw [pl_len, ← HX.out.2.2.2.2.1]; exact Nat.le_refl _), List.take_of_length_le (by rw [pl_len, ← HX.out.2.2.2.2.2.1]; exact Nat.le_refl _)] at q1
                  exact q1
                exact ⟨k + 1, by omega, by go_num, take_eq_next HI.out.1 (by rw [List.getElem?_map, HX.out.1]; rfl) (by rw [List.getElem?_map, HX.out.2.1, e]; rfl), HA2.out.trans HJ.out.2⟩
              case measure => simp [intOf]; omega
        · have hmm' : (m1 != m2) = true := by simpa using hmm
          go_upto_region 6 with fail
          go_region
          go_wp2_with fail
          go_ret
          refine ⟨?_, (HI.out.2.drew)⟩
          rw [decide_eq_false (same_no HX.out.1 HX.out.2.1 (fun e => hmm (by rw [HX.out.2.2.2.2.1, HX.out.2.2.2.2.2.1, ← pl_len x1, ← pl_len x2, e])))]
          rfl
      · obtain rfl : k = n1 := by omega
        go_wp2_with fail
        go_ret
        refine ⟨?_, HI.out.2⟩
        have e : t1.map Pl.bs = t2.map Pl.bs := by
          have q := HI.out.1
          rw [List.take_of_length_le (by rw [List.length_map, HL.out.1]; exact Nat.le_refl _), List.take_of_length_le (by rw [List.length_map, HL.out.2.1]; exact Nat.le_refl _)] at q
          exact q
        rw [decide_eq_true e]
        rfl
  · have e : ¬ t1.map Pl.bs = t2.map Pl.bs := fun e => hne (by have q := congrArg List.length e; rw [List.length_map, List.length_map, hn1, hn2] at q; exact q)
    have HE := hid e
    have hne' : (n1 != n2) = true := by simpa using hne
    clear e h1 g1 h2 g2 hm
    go_enter Tryd.func21, Tryd.ntmps21
    go_wp2_with fail
    go_ret
    exact ⟨by rw [decide_eq_false HE.out]; rfl, Touch.refl _ _⟩
end Go.Proofs.YtllkplanjfnnmaaDoor

/- Cut, Pending, Lose and Open of a law. -/
namespace Go.Proofs.YtllkplanjfnnmaaDoor
open Go.RowKit
set_option maxRecDepth 100000 in
theorem wl_cut {w0 w : World} {OL OD : Nat → Prop} {l p : Nat} {L : LS} {D : dSt} (h : Wl w0 w OL OD l p L D) (hs : 0 < D.size) (n : Int) (hn : 0 ≤ n) : Calls Tryd.prog 18 #[Ptr p, .int .i64 n] w (PWl w0 w OL OD l p L (D.cut n) (.int .i64 0)) := by
  obtain ⟨hb, wv, hd, h1, h2, h3⟩ := h.disk
  refine (cut_ok 0 p hb wv D n w hd hs hn).mono ?_
  rintro e w' ⟨he, hd', hT⟩
  have hT' : Touch OD w w' := hT.mono (fun k _ c => by subst c; exact h1)
  refine ⟨he, OL, OD, ⟨h.log.touch hT' (fun k q c => h.apart k q c), ⟨hb, wv, hd', h1, h2, h3⟩, h.apart, h.low, fun k q => Nat.lt_of_lt_of_le (h.lt k q) hT.size, h.adds.then hT' (fun k hk c => by have := h.low k (.inr c); omega)⟩, hT'.mono (fun k _ c => .inr c), fun _ c => .inl c⟩
theorem wl_groups {w0 w : World} {OL OD : Nat → Prop} {l p : Nat} {L : LS} {D : dSt} (h : Wl w0 w OL OD l p L D) (hb : ∀ g ∈ L.G, g.length ≤ 1000000) (hn : L.G.length ≤ 10000) : Calls Tryd.prog 12 #[Ptr l] w (PGroups w (L.G.map W.recs)) := lgroups_any h.log hb hn
/-- A disk behind a loss. -/
def PLo (w : World) (D : dSt) (e : Ending) (w' : World) : Prop := ∃ p, e = .returned (.tuple #[Ptr p, .int .i64 0]) ∧ Hid (∃ OD, IsDO w' OD p D ∧ (∀ k, OD k → w.heap.size ≤ k ∧ k < w'.heap.size) ∧ Adds w w')
set_option maxRecDepth 100000 in
theorem wl_lose {w0 w : World} {OL OD : Nat → Prop} {l p : Nat} {L : LS} {D : dSt} (h : Wl w0 w OL OD l p L D) (hn : D.W.length ≤ 900) (hsz : 0 < D.size) (ka : Option Addr) (kc : Nat) (ks : List Bool) (torn at_ : Int) (hks : KeptAt w ka ks) (hkn : ks.length ≤ 9223372036854775807) (hat : 0 ≤ torn ∧ torn < D.W.length → 0 ≤ at_ ∧ at_ ≤ 256) :
    Calls Tryd.prog 20 #[Ptr p, .agg #[.slice ka ks.length kc, .int .i64 torn, .int .i64 at_]] w (PLo w (D.lost ks torn at_)) := by
  obtain ⟨hb, wv, hd, h1, h2, h3⟩ := h.disk
  refine (lose_ok 0 p hb wv D ka kc ks torn at_ w hd (by omega) hsz (Nat.zero_le _) hks hkn hat).mono ?_
  rintro e w' ⟨q, hb', he, hq, hhb, hd', hA⟩
  refine ⟨q, he, fun k => k = q ∨ k = hb', ⟨hb', _, hd', .inl rfl, .inr rfl, fun k hk => (by cases hk)⟩, fun k c => ?_, hA⟩
  have q1 := (Array.getElem?_eq_some_iff.1 hd'.box).1
  obtain ⟨es, cl, q2, _⟩ := hd'.held
  have q2 := (Array.getElem?_eq_some_iff.1 q2).1
  rcases c with rfl | rfl <;> omega
/-- The log that is opened on it. -/
theorem lo_open {w : World} {OD : Nat → Prop} {p : Nat} {D : dSt} (hD : IsDO w OD p D) (hO : ∀ k, OD k → k < w.heap.size) (hT : Tab w) (hl : D.left = -1) (hs : D.size = 10) (h0 : D.W = []) (h1 : D.steps = 0) (e : Nat) (he : 1 ≤ e) (he2 : e ≤ 1000) : Calls Tryd.prog 7 #[Ptr p, .int .i64 1, .int .i64 9, .int .i64 (e : Int)] w (PLog w p ⟨1, 9, e, true, (W.find e (secOf D 1) 9 0 [] [] 0).1, []⟩) :=
  open_ok hD (n0 := 0) ⟨by rw [h0]; exact Nat.le_refl _, by rw [h1]; exact Int.le_refl _, by rw [h1]; exact Int.le_refl _, by rw [hl]; exact Int.le_refl _, by rw [hl]; decide, by rw [hs]; decide⟩ (by decide) hT hO 1 9 e (by decide) (by decide) (by rw [hs]; decide) he (by omega) (by rw [hs]; decide) (by rw [hl]; decide)
end Go.Proofs.YtllkplanjfnnmaaDoor

/- Small facts ahead of WalEpochs. -/
namespace Go.Proofs.YtllkplanjfnnmaaDoor
open Go.RowKit
set_option maxRecDepth 100000 in
theorem two_secs {L : LS} (h : Two L) (hk : L.Ok) (hR : L.R ≠ []) : W.secs (W.gbytes L.R).length ≤ 9 := by
  have := hk.wt hR
  rw [h.ct] at this
  omega
set_option maxRecDepth 100000 in
theorem two_dok {L : LS} {D : dSt} {n : Nat} (h : Two L) (hk : L.Ok) (hD : Old D 9) (hd : DOk D n) : DOk (comD L D) (n + 10) := by
  have hc : ¬ L.cl = true := by rw [h.cl]; decide
  by_cases hR : L.R = []
  · rw [comD, if_neg hc, if_pos hR]
    exact hd.mono (by omega)
  · have hs := two_secs h hk hR
    obtain ⟨_, e2⟩ := goW_good (L := L) hD.left
    rw [comD, if_neg hc, if_neg hR, e2]
    have q1 := hd.steps0
    have q2 := hd.steps1
    have q3 : ((wroteN D (fW L.fr L.ep (W.usedOf L.G) (W.gbytes L.R)) 0 (W.secs (W.gbytes L.R).length)).synced).steps = D.steps + (W.secs (W.gbytes L.R).length : Nat) + 1 := by
      show (wroteN D _ 0 _).steps + 1 = _
      rw [wroteN_steps]
    have q4 : ((wroteN D (fW L.fr L.ep (W.usedOf L.G) (W.gbytes L.R)) 0 (W.secs (W.gbytes L.R).length)).synced).left = -1 := by
      show less (wroteN D _ 0 _).left = -1
      rw [wroteN_uncut _ _ hD.left]; rfl
    refine ⟨Nat.zero_le _, by omega, by omega, by omega, by omega, ?_⟩
    show 0 < (wroteN D _ 0 _).size
    rw [wroteN_size]; exact hd.size
/-- What a law's bytes are, whatever they be. -/
def PB8 (w : World) (e : Ending) (w' : World) : Prop := ∃ (bs : List UInt8) (bl : Nat), e = .returned (.slice (some ⟨w.heap.size, 0, none⟩) bl bl) ∧ Hid (bl = bs.length ∧ bl < 700 ∧ w'.heap[w.heap.size]? = some (.cells (S bs).toArray 5 (0, 0)) ∧ Adds w w')
set_option maxRecDepth 100000 in
theorem body_p (z : Int) (c : UInt8) (w : World) : Calls Tryd.prog 19 #[.int .i64 z, .int .u8 (c.toNat : Int)] w (PB8 w) := by
  refine (body8_any z c w).mono ?_
  rintro e w' ⟨he, h⟩
  exact ⟨_, _, he, rfl, len_bodyN z c, h.out⟩
/-- What an Append in the first loop leaves. -/
def PAp8 (w0 : World) (l p : Nat) (D : dSt) (e : Ending) (w' : World) : Prop := ∃ z : Int, e = .returned (.int .i64 z) ∧ Hid (∃ L OL OD, Wl w0 w' OL OD l p L D ∧ Two L ∧ L.Ok)
set_option maxRecDepth 100000 in
theorem app_two {w0 w : World} {OL OD : Nat → Prop} {l p : Nat} {L : LS} {D : dSt} (h : Wl w0 w OL OD l p L D) (h2 : Two L) (hk : L.Ok) (a : Option Addr) (bs : List UInt8) (n cap : Nat) (hn : n = bs.length) (hA : At w a bs) : Calls Tryd.prog 9 #[Ptr l, .slice a n cap] w (PAp8 w0 l p D) := by
  refine (wl_append h hk a bs n cap hn.symm hA).mono ?_
  rintro e w' ⟨he, q⟩
  obtain ⟨OL', OD', q1, _, _⟩ := q.out
  exact ⟨_, he, _, _, _, q1, h2.app bs, hk.app bs⟩
def PCo8 (w0 : World) (l p n : Nat) (e : Ending) (w' : World) : Prop := e = .returned (.int .i64 0) ∧ Hid (∃ L D OL OD, Wl w0 w' OL OD l p L D ∧ Two L ∧ L.Ok ∧ Old D 9 ∧ DOk D n)
set_option maxRecDepth 100000 in
theorem com_two {w0 w : World} {OL OD : Nat → Prop} {l p n : Nat} {L : LS} {D : dSt} (h : Wl w0 w OL OD l p L D) (h2 : Two L) (hk : L.Ok) (hD : Old D 9) (hd : DOk D n) (hn : n ≤ 700) (hT : Tab w0) : Calls Tryd.prog 10 #[Ptr l] w (PCo8 w0 l p (n + 10)) := by
  obtain ⟨e1, e2, e3⟩ := two_com h2 hD
  have q := wl_commit h hk hd (by rw [h2.ct]; omega) (by rw [h2.fr, h2.ct, hD.size]; decide) hT
  rw [e1] at q
  refine q.mono ?_
  rintro e w' ⟨he, q⟩
  obtain ⟨OL', OD', q1, _, _⟩ := q.out
  exact ⟨he, _, _, _, _, q1, e2, hk.com D, e3, two_dok h2 hk hD hd⟩
set_option maxRecDepth 100000 in
theorem com8 {w0 w : World} {l p n : Nat} {D : dSt} (h : ∃ L OL OD, Wl w0 w OL OD l p L D ∧ Two L ∧ L.Ok) (hD : Old D 9) (hd : DOk D n) (hn : n ≤ 700) (hT : Tab w0) : Calls Tryd.prog 10 #[Ptr l] w (PCo8 w0 l p (n + 10)) := by
  obtain ⟨L, OL, OD, h1, h2, h3⟩ := h
  exact com_two h1 h2 h3 hD hd hn hT
set_option maxRecDepth 100000 in
theorem next8 {w0 w : World} {l p n m : Nat} {D : dSt} (h : ∃ L OL OD, Wl w0 w OL OD l p L D ∧ Two L ∧ L.Ok) (hD : Old D 9) (hd : DOk D n) (hm : n ≤ m) : ∃ L D OL OD, Wl w0 w OL OD l p L D ∧ Two L ∧ L.Ok ∧ Old D 9 ∧ DOk D m := by
  obtain ⟨L, OL, OD, h1, h2, h3⟩ := h
  exact ⟨L, D, OL, OD, h1, h2, h3, hD, hd.mono hm⟩
/-- The log, begun anew. -/
abbrev L9 (R : List (List UInt8)) : LS := ⟨1, 9, 3, false, [], R⟩
set_option maxRecDepth 100000 in
theorem beg_two {L : LS} (h : Two L) : begE L 2 = 2 ∧ begL L 2 = L ∧ begE L 3 = 0 ∧ begL L 3 = L9 [] := by
  have hep := h.ep
  have hfr := h.fr
  have hct := h.ct
  refine ⟨by rw [begE, if_pos (by omega)], by rw [begL, if_pos (by omega)], by rw [begE, if_neg (by omega)], ?_⟩
  rw [begL, if_neg (by omega), hfr, hct]; rfl
set_option maxRecDepth 100000 in
theorem beg2_two {w0 w : World} {OL OD : Nat → Prop} {l p : Nat} {L : LS} {D : dSt} (h : Wl w0 w OL OD l p L D) (h2 : Two L) : Calls Tryd.prog 8 #[Ptr l, .int .i64 2] w (PWl w0 w OL OD l p L D (.int .i64 2)) := by
  have q := wl_begin h 2
  rw [(beg_two h2).1, (beg_two h2).2.1] at q
  exact q
set_option maxRecDepth 100000 in
theorem beg3_two {w0 w : World} {OL OD : Nat → Prop} {l p : Nat} {L : LS} {D : dSt} (h : Wl w0 w OL OD l p L D) (h2 : Two L) : Calls Tryd.prog 8 #[Ptr l, .int .i64 3] w (PWl w0 w OL OD l p (L9 []) D (.int .i64 0)) := by
  have q := wl_begin h 3
  rw [(beg_two h2).2.2.1, (beg_two h2).2.2.2] at q
  exact q
set_option maxRecDepth 100000 in
theorem steps_l {w0 w : World} {OL OD : Nat → Prop} {l p : Nat} {L : LS} {D : dSt} {n : Nat} {st : Int} (h : Wl w0 w OL OD l p L D) (hd : DOk D n) (hs : st = D.steps) : Calls Tryd.prog 23 #[Ptr p] w (Tells (.int .i64 st) w) := by
  rw [hs]; exact wl_steps h hd.size
/-- No group. -/
def PNone (w : World) (e : Ending) (w' : World) : Prop := ∃ a c, e = .returned (.slice a 0 c) ∧ Adds w w'
set_option maxRecDepth 100000 in
theorem groups_no {w0 w : World} {OL OD : Nat → Prop} {l p : Nat} {L : LS} {D : dSt} (h : Wl w0 w OL OD l p L D) (hG : L.G = []) : Calls Tryd.prog 12 #[Ptr l] w (PNone w) := by
  refine (wl_groups h (by rw [hG]; intro g hg; cases hg) (by rw [hG]; exact Nat.zero_le _)).mono ?_
  rintro e w' ⟨v, t, he, q⟩
  obtain ⟨q1, q2, q3⟩ := q.out
  rw [hG] at q2
  obtain rfl : t = [] := by cases t with
    | nil => rfl
    | cons => cases q2
  obtain ⟨a, c, e1, _⟩ := own_cq q1.rows
  exact ⟨a, c, by rw [he, e1]; rfl, q3⟩
end Go.Proofs.YtllkplanjfnnmaaDoor

/- A law's own list of records, grown in place beside a log. -/
namespace Go.Proofs.YtllkplanjfnnmaaDoor
open Go.RowKit
structure Gr (N : Nat → Prop) (w : World) (v : Value) (hs : List Part) : Prop where
  rows : w.ownsRow 0 22 1 v hs.length (hs.map PV)
  own : ∀ k, v.ownBlock = some k → N k ∧ k < w.heap.size
  data : ∀ x ∈ hs, PQ w (fun k => N k ∧ v.ownBlock ≠ some k) x
theorem Gr.nil (N : Nat → Prop) (w : World) : Gr N w (.slice none 0 0) [] := ⟨World.ownsRow_nil _ _ _ _, fun _ hk => (by cases hk), fun _ hx => (by cases hx)⟩
set_option maxRecDepth 100000 in
theorem Gr.next {N N' T : Nat → Prop} {w w' : World} {v : Value} {hs : List Part} (h : Gr N w v hs) (hT : Touch T w w') (hn : ∀ k, N k → ¬ T k) (hN : ∀ k, k < w.heap.size → N k → N' k) : Gr N' w' v hs := by
  refine ⟨row_touch h.rows hT (fun k hk => hn k (h.own k hk).1), fun k hk => ⟨hN k (h.own k hk).2 (h.own k hk).1, Nat.lt_of_lt_of_le (h.own k hk).2 hT.size⟩, fun x hx => ?_⟩
  have q := (h.data x hx).mono (Q' := fun k => N k ∧ N' k ∧ v.ownBlock ≠ some k) (fun k hk q => ⟨q.1, hN k hk q.1, q.2⟩)
  exact (q.touch hT (fun k q => hn k q.1)).mono (fun k _ q => q.2)
theorem Gr.adds {N : Nat → Prop} {w w' : World} {v : Value} {hs : List Part} (h : Gr N w v hs) (hA : Adds w w') : Gr N w' v hs := h.next hA (fun _ _ => id) (fun _ _ q => q)
set_option maxRecDepth 100000 in
theorem Gr.more {N : Nat → Prop} {w w1 w2 : World} {v v' : Value} {hs : List Part} {x : Part} (h : Gr N w v hs) (hA : Adds w w1) (hG : Grew w1 w2 22 v v' (hs.length + 1) (hs.map PV ++ [PV x])) (hN : ∀ k, w.heap.size ≤ k → N k) (hx : PQ w1 (fun k => N k ∧ v.ownBlock ≠ some k) x) : Gr N w2 v' (hs ++ [x]) := by
  have hw := hA.size
  have hw2 := hG.touch.size
  have hlt : ∀ k, k < w1.heap.size → v.ownBlock ≠ some k → v'.ownBlock ≠ some k := fun k hk hn c => by
    rcases hG.2.2 with e | e
    · exact hn (by rw [← e]; exact c)
    · rw [e] at c; cases c; omega
  refine ⟨by rw [List.length_append, List.map_append]; exact hG.1, fun k hk => ⟨?_, ?_⟩, fun y hy => ?_⟩
  · rcases hG.2.2 with e | e
    · exact (h.own k (by rw [← e]; exact hk)).1
    · rw [e] at hk; cases hk; exact hN _ hw
  · obtain ⟨a, c, e, _, hac, hq⟩ := own_cq hG.1
    obtain ⟨b, o, _, hb, hc⟩ := hq hs.length (PV x) (by rw [List.getElem?_append_right (by simp)]; simp)
    rw [hk] at hb
    cases hb
    exact World.block_lt_of_cell? w2 _ hc
  · rcases List.mem_append.1 hy with hy | hy
    · have q := ((h.data y hy).adds hA).mono (Q' := fun k => N k ∧ v.ownBlock ≠ some k ∧ v'.ownBlock ≠ some k) (fun k hk q => ⟨q.1, q.2, hlt k hk q.2⟩)
      exact (q.touch hG.touch (fun k q => q.2.1)).mono (fun k _ q => ⟨q.1, q.2.2⟩)
    · obtain rfl := List.mem_singleton.1 hy
      have q := hx.mono (Q' := fun k => N k ∧ v.ownBlock ≠ some k ∧ v'.ownBlock ≠ some k) (fun k hk q => ⟨q.1, q.2, hlt k hk q.2⟩)
      exact (q.touch hG.touch (fun k q => q.2.1)).mono (fun k _ q => ⟨q.1, q.2.2⟩)
set_option maxRecDepth 100000 in
theorem Gr.pl {N : Nat → Prop} {w : World} {v : Value} {hs : List Part} (h : Gr N w v hs) : ∃ a c, v = .slice a hs.length c ∧ GQ w N ⟨a, c, hs⟩ := by
  obtain ⟨a, c, e, _, h2, h3⟩ := own_cq h.rows
  exact ⟨a, c, e, ⟨h3.mono (fun k _ q => (h.own k q).1), h2, fun x hx => (h.data x hx).mono (fun _ _ q => q.1)⟩⟩
/-- New, and of no log. -/
def Nw (w0 : World) (OL OD : Nat → Prop) (k : Nat) : Prop := w0.heap.size ≤ k ∧ ¬ (OL k ∨ OD k)
theorem Wl.new {w0 w : World} {OL OD : Nat → Prop} {l p : Nat} {L : LS} {D : dSt} (h : Wl w0 w OL OD l p L D) : ∀ k, w.heap.size ≤ k → Nw w0 OL OD k := fun k hk => ⟨Nat.le_trans h.adds.size hk, fun c => by have := h.lt k c; omega⟩
theorem Gr.call {w0 w w' : World} {OL OD OL' OD' : Nat → Prop} {v : Value} {hs : List Part} (h : Gr (Nw w0 OL OD) w v hs) (hT : Touch (fun k => OL k ∨ OD k) w w') (hn : ∀ k, OL' k ∨ OD' k → (OL k ∨ OD k) ∨ w.heap.size ≤ k) : Gr (Nw w0 OL' OD') w' v hs :=
  h.next hT (fun k q => q.2) (fun k hk q => ⟨q.1, fun c => by rcases hn k c with c | c; exact q.2 c; omega⟩)
set_option maxRecDepth 100000 in
/-- New bytes. -/
theorem part_new {w w' : World} {bs : List UInt8} (h : w'.heap[w.heap.size]? = some (.cells (S bs).toArray 5 (0, 0)) ∧ Adds w w') : PQ w' (fun k => k = w.heap.size) ⟨some ⟨w.heap.size, 0, none⟩, bs, bs.length⟩ := by
  refine ⟨fun j u hj => ⟨w.heap.size, 0, rfl, rfl, ?_⟩, fun e => by cases e⟩
  rw [cellOf h.1, Nat.zero_add]
  simpa using hj
set_option maxRecDepth 100000 in
theorem l9_app {R : List (List UInt8)} {bs : List UInt8} (hb : bs.length < 700) : (W.secs (W.gbytes (R ++ [bs])).length ≤ 9 → appE (L9 R) bs = 0 ∧ appL (L9 R) bs = L9 (R ++ [bs])) ∧ (¬ W.secs (W.gbytes (R ++ [bs])).length ≤ 9 → appE (L9 R) bs = 31 ∧ appL (L9 R) bs = L9 R) := by
  have hc : ¬ (L9 R).cl = true := by simp
  have hl : ¬ 4096 < bs.length := by omega
  refine ⟨fun h => ?_, fun h => ?_⟩
  · have e : appE (L9 R) bs = 0 := by rw [appE, if_neg hc, if_neg hl, if_pos (by simpa [W.usedOf] using h)]
    exact ⟨e, by rw [appL, if_pos e]⟩
  · have e : appE (L9 R) bs = 31 := by rw [appE, if_neg hc, if_neg hl, if_neg (by simpa [W.usedOf] using h)]
    exact ⟨e, by rw [appL, e]; rfl⟩
set_option maxRecDepth 100000 in
/-- The list is grown by the record that the log took. -/
theorem gr_more {w0 w4 w5 : World} {OL OD : Nat → Prop} {l p m bl B : Nat} {L : LS} {D : dSt} {hs : List Part} {bs : List UInt8} {v v5 : Value} {o : Obj} (hW : Wl w0 w4 OL OD l p L D) (hG : Gr (Nw w0 OL OD) w4 v hs) (hX : PQ w4 (fun k => k = B) ⟨some ⟨B, 0, none⟩, bs, bs.length⟩) (hB : Nw w0 OL OD B) (hv : v.ownBlock ≠ some B) (hm : m = hs.length) (hbl : bl = bs.length)
    (h5 : Grew (w4.alloc o) w5 22 v v5 (m + 1) (hs.map PV ++ [.slice (some ⟨B, 0, none⟩) bl bl])) : Wl w0 w5 OL OD l p L D ∧ Gr (Nw w0 OL OD) w5 v5 (hs ++ [⟨some ⟨B, 0, none⟩, bs, bs.length⟩]) := by
  subst hm hbl
  have hA : Adds w4 (w4.alloc o) := (Touch.refl _ w4).alloc o
  refine ⟨(hW.add hA).touch h5.touch (fun k c => ⟨(hG.own k c).1.2, (hG.own k c).1.1⟩), hG.more hA h5 hW.new ((hX.adds hA).mono (fun k _ q => ?_))⟩
  subst q
  exact ⟨hB, hv⟩
theorem ok9 : (L9 []).Ok := ⟨by show 1 ≤ 4096; decide, by show 9 ≤ 10000; decide, by show 3 ≤ 1000000000; decide, Nat.zero_le _, fun c => absurd rfl c, fun g hg => (by cases hg)⟩
theorem heap_lt {w : World} {k : Nat} {o : Obj} (h : w.heap[k]? = some o) : k < w.heap.size := (Array.getElem?_eq_some_iff.1 h).1
theorem blk_new {w0 wr w3 : World} {OL OD OL7 OD7 : Nat → Prop} {l p : Nat} {L : LS} {D : dSt} (h : Wl w0 wr OL OD l p L D) (_hA : Adds wr w3) (n7 : ∀ k, OL7 k ∨ OD7 k → (OL k ∨ OD k) ∨ w3.heap.size ≤ k) (h3 : wr.heap.size < w3.heap.size) : Nw w0 OL7 OD7 wr.heap.size :=
  ⟨h.adds.size, fun c => by rcases n7 _ c with c | c; have := h.lt _ c; omega; omega⟩
end Go.Proofs.YtllkplanjfnnmaaDoor

/- What a cut Commit in a new epoch leaves, behind a loss that keeps all that waits. -/
namespace Go.Proofs.YtllkplanjfnnmaaDoor
open Go.RowKit
def cutN (z : Int) : Nat := (z % 18446744073709551616).toNat % 12
set_option maxRecDepth 100000 in
theorem cut_wrap (z : Int) : wrap64 ((IntKind.u64.wrap z).tmod 12) = (cutN z : Int) := by
  unfold cutN
  rw [IntKind.wrap_u64]
  have h0 : 0 ≤ z % 18446744073709551616 := Int.emod_nonneg _ (by decide)
  rw [Int.tmod_eq_emod_of_nonneg h0]
  unfold wrap64
  omega
set_option maxRecDepth 100000 in
theorem good_of {R : List (List UInt8)} (h : (L9 R).Ok) (hR : R ≠ []) : W.Good (W.gbytes R) ∧ W.secs (W.gbytes R).length ≤ 9 ∧ W.recs (W.gbytes R) = R := by
  have hw : W.secs (W.gbytes R).length ≤ 9 := by have q := h.wt hR; simpa [W.usedOf] using q
  have hl := secs_len hw
  have hr := W.recs_put R (by omega)
  exact ⟨⟨by omega, by rw [hr]; exact hR⟩, hw, hr⟩
/-- The groups that stand behind the loss. -/
def gone (D : dSt) : List (List UInt8) := (W.find 3 (secOf (D.lost (List.replicate D.W.length true) (-1) 0) 1) 9 0 [] [] 0).1
/-- How it ends. -/
def Fin (R : List (List UInt8)) (e : Int) (n sc : Nat) (G : List (List UInt8)) : Prop :=
  (R = [] ∧ e = 0 ∧ G = []) ∨ (R ≠ [] ∧ e = 0 ∧ G = [W.gbytes R]) ∨ (R ≠ [] ∧ e = 10 ∧ n = sc ∧ G = [W.gbytes R]) ∨ (R ≠ [] ∧ e = 10 ∧ n ≠ sc ∧ G = [])
set_option maxRecDepth 100000 in
theorem lost_sec (D : dSt) (i : Nat) : secOf (D.lost (List.replicate D.W.length true) (-1) 0) 1 i = hasOf D.H D.W ((1 + i : Nat) : Int) := by
  show hasOf (loseTo D.H D.W (List.replicate D.W.length true) (-1) 0 D.W.length) [] _ = _
  rw [lose_all _ (Nat.le_refl _), List.take_length]
  show syncH D.H D.W _ = _
  rw [syncH_has]
set_option maxRecDepth 100000 in
theorem cut_left {D : dSt} (h : Old D 9) (n : Int) : (D.cut n).left = n := by show (if D.left = 0 then 0 else n) = n; rw [h.left]; rfl
set_option maxRecDepth 100000 in
theorem fin_of {R : List (List UInt8)} {D : dSt} {n : Nat} (hD : Old D 9) (hk : (L9 R).Ok) : Fin R (comE (L9 R) (D.cut n)) (comD (L9 R) (D.cut n)).W.length (W.secs (W.gbytes R).length) (gone (comD (L9 R) (D.cut n))) ∧ (comD (L9 R) (D.cut n)).W.length ≤ 9 ∧ (comD (L9 R) (D.cut n)).size = 10 := by
  have hc : ¬ (L9 R).cl = true := by simp
  have hcl := cut_left hD (n : Int)
  have hsz : (D.cut (n : Int)).size = 10 := hD.size
  by_cases hR : R = []
  · subst hR
    rw [comE, comD, if_neg hc, if_neg hc, if_pos rfl, if_pos rfl]
    have hW : (D.cut (n : Int)).W = [] := hD.wait
    refine ⟨.inl ⟨rfl, rfl, ?_⟩, by rw [hW]; exact Nat.zero_le _, hsz⟩
    unfold gone
    rw [W.find_bad (by rw [lost_sec, hW]; exact hD.bad 0 (by decide))]
  · have hR' : ¬ (L9 R).R = [] := hR
    obtain ⟨hg, hs, hr⟩ := good_of hk hR
    rw [comE, comD, if_neg hc, if_neg hc, if_neg hR', if_neg hR']
    by_cases hn : W.secs (W.gbytes R).length < n
    · have e : comR (L9 R) (D.cut (n : Int)) = (0, (wroteN (D.cut (n : Int)) (fW 1 3 0 (W.gbytes R)) 0 (W.secs (W.gbytes R).length)).synced) := by
        unfold comR
        exact goW_all (.inr (by rw [hcl]; exact_mod_cast hn))
      rw [e]
      refine ⟨.inr (.inl ⟨hR, rfl, ?_⟩), Nat.zero_le _, ?_⟩
      · unfold gone
        rw [find_kept (H := D.H) (c := W.secs (W.gbytes R).length) hg hs (fun i hi => ?_) hD.bad (Nat.le_refl _), if_pos rfl]
        rw [lost_sec]
        show syncH (wroteN (D.cut (n : Int)) _ 0 _).H (wroteN (D.cut (n : Int)) _ 0 _).W _ = _
        rw [wroteN_H, wroteN_W, syncH_has, show (D.cut (n : Int)).W = [] from hD.wait, List.nil_append]
        have q := has_writes D.H 1 3 0 (W.gbytes R) i (W.secs (W.gbytes R).length)
        rw [Nat.add_zero] at q
        exact q
      · show (wroteN (D.cut (n : Int)) _ 0 _).size = _
        rw [wroteN_size]; exact hsz
    · have e : comR (L9 R) (D.cut (n : Int)) = (10, wroteN (D.cut (n : Int)) (fW 1 3 0 (W.gbytes R)) 0 n) := by
        unfold comR
        rw [goW_cut (by rw [hcl]; omega) (by rw [hcl]; show (n : Int) ≤ ((W.secs (W.gbytes R).length : Nat) : Int); omega), hcl]
        rfl
      rw [e]
      have hWn : (wroteN (D.cut (n : Int)) (fW 1 3 0 (W.gbytes R)) 0 n).W = (List.range n).map (fun j => fW 1 3 0 (W.gbytes R) (0 + j)) := by
        rw [wroteN_W, show (D.cut (n : Int)).W = [] from hD.wait, List.nil_append]
      have hl : (wroteN (D.cut (n : Int)) (fW 1 3 0 (W.gbytes R)) 0 n).W.length = n := by rw [hWn]; simp
      have hG : gone (wroteN (D.cut (n : Int)) (fW 1 3 0 (W.gbytes R)) 0 n) = if n = W.secs (W.gbytes R).length then [W.gbytes R] else [] := by
        unfold gone
        refine find_kept (H := D.H) (c := n) hg hs (fun i hi => ?_) hD.bad (by omega)
        rw [lost_sec, wroteN_H, hWn]
        have q := has_writes D.H 1 3 0 (W.gbytes R) i n
        rw [Nat.add_zero] at q
        exact q
      refine ⟨.inr (.inr ?_), by rw [hl]; omega, by rw [wroteN_size]; exact hsz⟩
      by_cases hx : n = W.secs (W.gbytes R).length
      · exact .inl ⟨hR, rfl, by rw [hl]; exact hx, by rw [hG, if_pos hx]⟩
      · exact .inr ⟨hR, rfl, by rw [hl]; exact hx, by rw [hG, if_neg hx]⟩
end Go.Proofs.YtllkplanjfnnmaaDoor

/- The calls of WalEpochs behind its second loop. -/
namespace Go.Proofs.YtllkplanjfnnmaaDoor
open Go.RowKit
/-- What the cut Commit leaves. -/
def PC9 (w0 : World) (l p : Nat) (v : Value) (hs : List Part) (e : Ending) (w' : World) : Prop := ∃ (z : Int) (Dn : dSt), e = .returned (.int .i64 z) ∧ Hid (Fin (hs.map (·.bs)) z Dn.W.length (W.secs (W.gbytes (hs.map (·.bs))).length) (gone Dn) ∧ Dn.W.length ≤ 9 ∧ Dn.size = 10 ∧ ∃ L OL OD, Wl w0 w' OL OD l p L Dn ∧ Gr (Nw w0 OL OD) w' v hs)
set_option maxRecDepth 100000 in
theorem com9 {w0 w : World} {OL OD : Nat → Prop} {l p n : Nat} {D : dSt} {v : Value} {hs : List Part} (h : Wl w0 w OL OD l p (L9 (hs.map (·.bs))) (D.cut (n : Int))) (hG : Gr (Nw w0 OL OD) w v hs) (hk : (L9 (hs.map (·.bs))).Ok) (hD : Old D 9) (hd : DOk D 110) (hn : n ≤ 100) (hT : Tab w0) : Calls Tryd.prog 10 #[Ptr l] w (PC9 w0 l p v hs) := by
  obtain ⟨f1, f2, f3⟩ := fin_of (n := n) hD hk
  have hcl := cut_left hD (n : Int)
  have hd' : DOk (D.cut (n : Int)) 110 := ⟨hd.waits, hd.steps0, hd.steps1, by rw [hcl]; omega, by rw [hcl]; omega, hd.size⟩
  refine (wl_commit h hk hd' (by show 110 + 9 ≤ 800; decide) (by show ((1 : Nat) : Int) + ((9 : Nat) : Int) ≤ D.size; rw [hD.size]; decide) hT).mono ?_
  rintro e w' ⟨he, q⟩
  obtain ⟨OL', OD', q1, q2, q3⟩ := q.out
  exact ⟨_, _, he, f1, f2, f3, _, OL', OD', q1, hG.call q2 q3⟩
def PP9 (w : World) (n : Nat) (e : Ending) (w' : World) : Prop := ∃ a c, e = .returned (.slice a n c) ∧ Adds w w'
set_option maxRecDepth 100000 in
theorem pend9 {w0 w : World} {OL OD : Nat → Prop} {l p n : Nat} {L : LS} {D : dSt} (h : Wl w0 w OL OD l p L D) (hn : n = D.W.length) (hw : D.W.length ≤ 9) (hs : D.size = 10) : Calls Tryd.prog 24 #[Ptr p] w (PP9 w n) := by
  obtain ⟨hb, wv, hd, _⟩ := h.disk
  refine (pending_any 0 p hb wv D w hd (by omega) (by rw [hs]; decide)).mono ?_
  rintro e w' ⟨v, he, ho, hA⟩
  obtain ⟨a, c, e1, _⟩ := own_cq ho
  have hz : (places D.W).length = n := by rw [hn]; simp [places]
  exact ⟨a, c, by rw [he, e1, hz], hA⟩
set_option maxRecDepth 100000 in
theorem pend9' {w0 w w1 : World} {l p n : Nat} {v : Value} {hs : List Part} {D : dSt} {F : Prop} (h : F ∧ D.W.length ≤ 9 ∧ D.size = 10 ∧ ∃ L OL OD, Wl w0 w OL OD l p L D ∧ Gr (Nw w0 OL OD) w v hs) (hn : n = D.W.length) (hA : Adds w w1) : Calls Tryd.prog 24 #[Ptr p] w1 (PP9 w1 n) := by
  obtain ⟨_, h1, h2, L, OL, OD, h3, _⟩ := h
  exact pend9 (h3.add hA) hn h1 h2
set_option maxRecDepth 100000 in
theorem cut9 {w0 w : World} {OL OD : Nat → Prop} {l p n k : Nat} {L : LS} {D : dSt} {z : Int} (h : Wl w0 w OL OD l p L D) (hd : DOk D k) (hz : z = (n : Int)) : Calls Tryd.prog 18 #[Ptr p, .int .i64 z] w (PWl w0 w OL OD l p L (D.cut (n : Int)) (.int .i64 0)) := by
  rw [hz]; exact wl_cut h hd.size (n : Int) (by omega)
set_option maxRecDepth 100000 in
theorem info4 : ∃ i, Tryd.prog.info? 4 = some i ∧ i.zero = some (.bool false) ∧ i.size = 1 ∧ i.bytes = 1 := by
  have h : (Tryd.prog.info? 4).map (fun i => (i.zero, i.size, i.bytes)) = some (some (.bool false), 1, 1) := by kernel_rfl
  cases hq : Tryd.prog.info? 4 with
  | none => rw [hq] at h; cases h
  | some i =>
    rw [hq] at h
    simp only [Option.map_some, Option.some.injEq, Prod.mk.injEq] at h
    exact ⟨i, rfl, h.1, h.2.1, h.2.2⟩
set_option maxRecDepth 100000 in
theorem append_t4 {w : World} {ops : Array Oper} {rest : List Oper} {o : Oper} {act : Act} {Q : Exit → Act → World → Prop} (hgd : o.guard = none) (s x : Operand)
    (ho : o.op = .call { callee := .builtin .append, args := #[s, x], argTypes := #[46, 46] }) (v : Value) (n : Nat) (xs : List Value) (hs : act.eval s = v) (hown : w.ownsRow 0 4 1 v n xs)
    (g : Nat) (u : Value) (hx : act.eval x = .slice (some ⟨g, 0, none⟩) 1 1) (hc : w.cell? ⟨g, 0, none⟩ = some u) (hu : u.oneCell' = true) (hlen : n ≤ 10000000)
    (h : ∀ v' w', Grew w w' 4 v v' (n + 1) (xs ++ [u]) → wpList Tryd.prog ops Q rest (act.put o.dst v') w') : wpList Tryd.prog ops Q (o :: rest) act w := by
  obtain ⟨i0, hi, hz0, hz1, hz2⟩ := info4
  refine wpList_append_own_at _ hgd s x 46 ho 0 4 i0 (.bool false) 1 1 Tryd.underlying46 hi hz0 hz1 hz2 rfl (by decide) v n xs hs hown ⟨g, 0, none⟩ 1 1 [u] hx rfl ?_ (fun y hy => by rw [List.mem_singleton.1 hy]; exact hu) (by unfold maxLen; omega) (by omega) (Nat.zero_le _) (fun v' w' h1 h2 _ h4 => h v' w' ⟨h1, h2, h4⟩)
  intro j y hj
  match j, hj with
  | 0, hj =>
    obtain rfl : u = y := by simpa using hj
    rw [Addr.add_mid]; exact hc
theorem bools_lit (w : World) : (w.alloc (.cells #[] 4)).ownsRow 0 4 1 (.slice (some ⟨w.heap.size, 0, none⟩) 0 0) 0 [] := World.ownsRow_lit (base := 0) (e := 4) (size := 1) w #[] 0 (Nat.zero_le _) (by decide) rfl
/-- A law's list of what is kept: all. -/
structure Kp (w w' : World) (v : Value) (k : Nat) : Prop where
  rows : w'.ownsRow 0 4 1 v k (List.replicate k (.bool true))
  own : ∀ j, v.ownBlock = some j → w.heap.size ≤ j
  adds : Adds w w'
theorem Kp.lit (w : World) : Kp w (w.alloc (.cells #[] 4)) (.slice (some ⟨w.heap.size, 0, none⟩) 0 0) 0 := ⟨bools_lit w, fun j hj => by cases hj; exact Nat.le_refl _, (Touch.refl _ w).alloc _⟩
set_option maxRecDepth 100000 in
theorem Kp.more {w w1 w2 : World} {v v' : Value} {k : Nat} {o : Obj} (h : Kp w w1 v k) (hG : Grew (w1.alloc o) w2 4 v v' (k + 1) (List.replicate k (.bool true) ++ [.bool true])) : Kp w w2 v' (k + 1) := by
  have s1 := h.adds.size
  refine ⟨by rw [List.replicate_succ']; exact hG.1, hG.lt (by simp; omega) h.own, (h.adds.alloc o).then hG.touch (fun k hk c => by have := h.own k c; omega)⟩
theorem Kp.add {w w1 w2 : World} {v : Value} {k : Nat} (h : Kp w w1 v k) (hA : Adds w1 w2) : Kp w w2 v k := ⟨row_touch h.rows hA (fun _ _ => id), h.own, h.adds.trans hA⟩
set_option maxRecDepth 100000 in
theorem Kp.at {w w' : World} {v : Value} {k : Nat} (h : Kp w w' v k) : ∃ a c, v = .slice a k c ∧ KeptAt w' a (List.replicate k true) := by
  obtain ⟨a, c, e, _, _, h3⟩ := own_cq h.rows
  refine ⟨a, c, e, fun j hj => ?_⟩
  obtain ⟨b, o, ha, _, hc⟩ := h3 j (.bool true) (by rw [List.getElem?_replicate, if_pos (by simpa using hj)])
  exact ⟨b, o, ha, by rw [hc, List.getElem_replicate]⟩
set_option maxRecDepth 100000 in
theorem lose9 {w0 w : World} {OL OD : Nat → Prop} {l p n : Nat} {L : LS} {D : dSt} (h : Wl w0 w OL OD l p L D) (hn : n = D.W.length) (hw : D.W.length ≤ 9) (hs : D.size = 10) {ka : Option Addr} {kc : Nat} (hK : KeptAt w ka (List.replicate n true)) : Calls Tryd.prog 20 #[Ptr p, .agg #[.slice ka n kc, .int .i64 (-1), .int .i64 0]] w (PLo w (D.lost (List.replicate D.W.length true) (-1) 0)) := by
  subst hn
  have q := wl_lose h (by omega) (by rw [hs]; decide) ka kc (List.replicate D.W.length true) (-1) 0 hK (by rw [List.length_replicate]; omega) (fun c => by omega)
  rw [List.length_replicate] at q
  exact q
theorem open9 {w : World} {OD : Nat → Prop} {p : Nat} {D : dSt} (hD : IsDO w OD p (D.lost (List.replicate D.W.length true) (-1) 0)) (hO : ∀ k, OD k → k < w.heap.size) (hT : Tab w) (hs : D.size = 10) : Calls Tryd.prog 7 #[Ptr p, .int .i64 1, .int .i64 9, .int .i64 3] w (PLog w p ⟨1, 9, 3, true, gone D, []⟩) := lo_open hD hO hT rfl hs rfl rfl 3 (by decide) (by decide)
set_option maxRecDepth 100000 in
theorem none9 {w : World} {O : Nat → Prop} {l p : Nat} {L : LS} (h : IsLog w O l p L) (hG : L.G = []) : Calls Tryd.prog 12 #[Ptr l] w (PNone w) := by
  refine (lgroups_any h (by rw [hG]; intro g hg; cases hg) (by rw [hG]; exact Nat.zero_le _)).mono ?_
  rintro e w' ⟨v, t, he, q⟩
  obtain ⟨q1, q2, q3⟩ := q.out
  rw [hG] at q2
  obtain rfl : t = [] := by cases t with
    | nil => rfl
    | cons => cases q2
  obtain ⟨a, c, e1, _⟩ := own_cq q1.rows
  exact ⟨a, c, by rw [he, e1]; rfl, q3⟩
/-- One group. -/
def POne (w : World) (R : List (List UInt8)) (e : Ending) (w' : World) : Prop := ∃ a c x, e = .returned (.slice a 1 c) ∧ Hid (CQ w' (fun k => w.heap.size ≤ k) a [GV x] ∧ GQ w' (fun k => w.heap.size ≤ k) x ∧ x.bs = R ∧ Adds w w')
set_option maxRecDepth 100000 in
theorem one9 {w : World} {O : Nat → Prop} {l p : Nat} {L : LS} {R : List (List UInt8)} (h : IsLog w O l p L) (hG : L.G = [W.gbytes R]) (hk : (L9 R).Ok) (hR : R ≠ []) : Calls Tryd.prog 12 #[Ptr l] w (POne w R) := by
  obtain ⟨_, hs, hr⟩ := good_of hk hR
  have hl := secs_len hs
  refine (lgroups_any h (by rw [hG]; intro g hg; obtain rfl := List.mem_singleton.1 hg; omega) (by rw [hG]; show 1 ≤ 10000; decide)).mono ?_
  rintro e w' ⟨v, t, he, q⟩
  obtain ⟨q1, q2, q3⟩ := q.out
  rw [hG, List.map_cons, List.map_nil, hr] at q2
  obtain ⟨x, rfl⟩ : ∃ x, t = [x] := by
    match t, q2 with
    | [x], _ => exact ⟨x, rfl⟩
  obtain ⟨a, c, e1, _, _, h3⟩ := own_cq q1.rows
  refine ⟨a, c, x, by rw [he, e1]; rfl, h3.mono (fun k _ q => q1.own k q), (q1.data x (List.mem_singleton.2 rfl)).mono (fun _ _ q => q.1), ?_, q3⟩
  simpa using q2
set_option maxRecDepth 100000 in
theorem same9 {w : World} {Q1 Q2 : Nat → Prop} {a : Option Addr} {c m b : Nat} {x g : Pl} (h1 : CQ w Q1 a [GV x]) (g1 : GQ w Q1 x) (h2 : w.cell? ⟨b, 0, none⟩ = some (.slice g.a m g.cap)) (hm : m = g.l.length) (g2 : GQ w Q2 g) (hl : g.l.length ≤ 10) (he : x.bs = g.bs) : Calls Tryd.prog 21 #[.slice a 1 c, .slice (some ⟨b, 0, none⟩) 1 1] w (Adding (.bool true) w) := by
  have hx : x.l.length = g.l.length := by have := congrArg List.length he; simpa [Pl.bs] using this
  have q := same8 (Q1 := Q1) (Q2 := fun _ => True) a (some ⟨b, 0, none⟩) c 1 1 1 [x] [g] w rfl rfl h1 (fun y hy => by obtain rfl := List.mem_singleton.1 hy; exact g1) (fun j u hj => ?_) (fun y hy => by obtain rfl := List.mem_singleton.1 hy; exact g2.mono (fun _ _ _ => trivial)) ⟨by decide, by decide⟩ ⟨fun y hy => by obtain rfl := List.mem_singleton.1 hy; omega, fun y hy => by obtain rfl := List.mem_singleton.1 hy; omega⟩
  · rw [show decide (List.map Pl.bs [x] = List.map Pl.bs [g]) = true by simp [he]] at q
    exact q
  · match j, hj with
    | 0, hj =>
      obtain rfl : GV g = u := by simpa using hj
      exact ⟨b, 0, rfl, trivial, by rw [h2, hm]⟩
set_option maxRecDepth 100000 in
theorem l9_texts {R : List (List UInt8)} (h : (L9 R).Ok) : (W.texts R).length ≤ 2100 := by
  by_cases hR : R = []
  · subst hR; exact Nat.zero_le _
  · have h2 := secs_len (good_of h hR).2.1
    have h3 := texts_le R
    omega
set_option maxRecDepth 100000 in
theorem sec9 {Q : Nat → Prop} {w : World} {g : Pl} {m sc : Nat} (hG : GQ w Q g) (hm : m = g.l.length) (hk : (L9 g.bs).Ok) (hsc : sc = W.secs (W.gbytes g.bs).length) : Calls Tryd.prog 22 #[.slice g.a m g.cap] w (Adding (.int .i64 (sc : Int)) w) := by
  have q := sectors8_any g m hm.symm w hG (by have := l9_texts hk; omega)
  rw [← hsc] at q
  exact q
end Go.Proofs.YtllkplanjfnnmaaDoor
