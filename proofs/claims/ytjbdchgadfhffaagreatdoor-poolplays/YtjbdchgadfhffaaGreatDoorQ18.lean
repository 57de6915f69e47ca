/- The reference's Lose. -/
import Derived.Test.YtjbdchgadfhffaaGreatDoorQ16
import Derived.Test.YtjbdchgadfhffaaGreatDoorQ17
import Derived.Deep.LoopGhost
import Derived.Deep.Light
namespace Go.Proofs.YtjbdchgadfhffaaGreatDoor
open Go.RowKit

set_option maxRecDepth 100000 in
theorem zero78 (w : World) : (zeroValue 120).run Tryz.prog w = .ok (.agg #[.int .i64 0, Str []]) w := by kernel_rfl
set_option maxRecDepth 100000 in
theorem info78 : (Tryz.prog.info? 120).map (·.size) = some 2 := by kernel_rfl

set_option maxRecDepth 100000 in
theorem own_pos {w : World} {B : Nat} {e : TypeId} {size : Nat} {v : Value} {n : Nat} {xs : List Value} (h : w.ownsRow B e size v n xs) (hn : 0 < n) : ∃ g cap, v = .slice (some ⟨g, 0, none⟩) n cap := by
  rcases h.2 with ⟨_, h0⟩ | ⟨g, cap, cur, rfl, _⟩
  · omega
  · exact ⟨g, cap, rfl⟩
set_option maxRecDepth 100000 in
theorem build67 (w : World) : (Instr.buildSlice 49 0 #[]).run Tryz.prog w = .ok (.slice (some ⟨w.heap.size, 0, none⟩) 0 0) (w.alloc (.cells #[] 9)) := by kernel_rfl

/-- What the reference's Lose tells, and leaves. -/
def PRLose (w : World) (B : Nat) (D' : dSt) (e : Ending) (w' : World) : Prop := ∃ p hv, e = .returned (.tuple #[.pointer (some ⟨p, 0, none⟩), .int .i64 0]) ∧ w.heap.size ≤ p ∧ IsRef w' B p hv (.slice none 0 0) D' ∧ Adds w w'

theorem IsRef.mono {w : World} {B C p : Nat} {hv wv : Value} {D : dSt} (h : IsRef w C p hv wv D) (hB : B ≤ C) : IsRef w B p hv wv D :=
  ⟨h.box, own_mono h.held hB, own_mono h.wait hB, h.places, Nat.le_trans hB h.low, h.size, h.good, h.goodW⟩

set_option maxRecDepth 100000 in
set_option maxHeartbeats 1000000 in
theorem rlose_bad (B p : Nat) (hv wv : Value) (D : dSt) (ka : Option Addr) (kn kc : Nat) (torn at_ : Int) (w : World) (hd : IsRef w B p hv wv D) (ht : 0 ≤ torn ∧ torn < D.W.length) (hat : at_ < 0 ∨ 256 < at_) :
    Calls Tryz.prog 32 #[.pointer (some ⟨p, 0, none⟩), lossV ka kn kc torn at_] w fun e w' => e = .returned (.tuple #[.pointer none, .int .i64 2]) ∧ Adds w w' := by
  obtain ⟨ao, cap, rfl, hcap, _⟩ := hd.waitAt
  unfold lossV
  have hA1 : Adds w (w.alloc (.cells #[.slice ka kn kc, .int .i64 torn, .int .i64 at_] 40)) := (Touch.refl _ w).alloc _
  have hb1 : (w.alloc (.cells #[.slice ka kn kc, .int .i64 torn, .int .i64 at_] 40)).heap[w.heap.size]? = some (.cells #[.slice ka kn kc, .int .i64 torn, .int .i64 at_] 40 (0, 0)) := heap_alloc_new w _
  generalize hw1 : w.alloc (.cells #[.slice ka kn kc, .int .i64 torn, .int .i64 at_] 40) = w1 at hA1 hb1
  have c1 : w1.cell? ⟨p, 1, none⟩ = some (.slice ao D.W.length cap) := cellOf (hd.adds hA1).box 1
  have l1 : w1.cell? ⟨w.heap.size, 1, none⟩ = some (.int .i64 torn) := cellOf hb1 1
  have l2 : w1.cell? ⟨w.heap.size, 2, none⟩ = some (.int .i64 at_) := cellOf hb1 2
  obtain ⟨ht0, ht1⟩ := ht
  have ht1' : decide (torn < (D.W.length : Int)) = true := by simpa using ht1
  have HAT := hid hat
  clear hd hb1 hat
  go_enter Tryz.func32, Tryz.ntmps32
  go_upto_region 1 with fail
  go_quiet (fail)
  by_cases ha : at_ < 0
  · go_wp2
    go_ret2
    exact ⟨rfl, hA1.trans (dadds_drewN w1 nq).1⟩
  · have ha2 : 256 < at_ := by have := HAT.out; omega
    go_wp2
    go_ret2
    exact ⟨rfl, hA1.trans (dadds_drewN w1 nq).1⟩

set_option maxRecDepth 100000 in
set_option maxHeartbeats 4000000 in
theorem rlose_ok (C B p : Nat) (hv wv : Value) (D : dSt) (ka : Option Addr) (kc : Nat) (ks : List Bool) (torn at_ : Int) (w : World) (hd : IsRef w C p hv wv D) (hl : D.W.length ≤ 1000) (hB : B ≤ w.heap.size)
    (hk : KeptAt w ka ks) (_hkn : ks.length ≤ 9223372036854775807) (hat : 0 ≤ torn ∧ torn < D.W.length → 0 ≤ at_ ∧ at_ ≤ 256) :
    Calls Tryz.prog 32 #[.pointer (some ⟨p, 0, none⟩), lossV ka ks.length kc torn at_] w (PRLose w B (D.lost ks torn at_)) := by
  obtain ⟨g, cap, rfl, hcap, hglt, hcell, _⟩ := hd.heldAt
  obtain ⟨ao, wcap, rfl, hwcap, hrest⟩ := hd.waitAt
  obtain ⟨i9, hi9, hz0, hz1, hz2⟩ := info9all
  have hs := hd.size
  have HR := hid hrest
  unfold lossV
  have hA1 : Adds w (w.alloc (.cells #[.slice ka ks.length kc, .int .i64 torn, .int .i64 at_] 40)) := (Touch.refl _ w).alloc _
  have hb1 : (w.alloc (.cells #[.slice ka ks.length kc, .int .i64 torn, .int .i64 at_] 40)).heap[w.heap.size]? = some (.cells #[.slice ka ks.length kc, .int .i64 torn, .int .i64 at_] 40 (0, 0)) := heap_alloc_new w _
  generalize hw1 : w.alloc (.cells #[.slice ka ks.length kc, .int .i64 torn, .int .i64 at_] 40) = w1 at hA1 hb1
  have hd1 := hd.adds hA1
  have c1 : w1.cell? ⟨p, 1, none⟩ = some (.slice ao D.W.length wcap) := cellOf hd1.box 1
  have l1 : w1.cell? ⟨w.heap.size, 1, none⟩ = some (.int .i64 torn) := cellOf hb1 1
  have HD := hid hd1
  have HK := hid hk
  have HAT := hid hat
  have HB1 := hid hb1
  clear hrest hd hd1 hk hat hb1 hcell
  go_enter Tryz.func32, Tryz.ntmps32
  go_upto_region 1 with fail
  go_cut [6] (fun t w' => (Adds w1 w' ∧ w'.heap = w1.heap) ∧ t = .bool (decide (0 ≤ torn) && decide (torn < D.W.length)))
  case first =>
    by_cases ht : 0 ≤ torn
    · go_quiet (fail)
      go_wp2
      go_meet
      case rel => exact ⟨dadds_drewN w1 nq, by simp [ht]⟩
    · have ht' : decide (0 ≤ torn) = false := by simpa using ht
      clear ht
      go_quiet (fail)
      go_wp2
      go_meet
      case rel => exact ⟨dadds_drewN w1 nq, by rw [ht']; rfl⟩
  case rest =>
    obtain ⟨⟨hA2, hh2⟩, rfl⟩ := hcut
    have hA3 : Adds w wc := hA1.trans hA2
    have HD2 := hid (HD.out.adds hA2)
    have HB2 := hid (show wc.heap[w.heap.size]? = some (.cells #[.slice ka ks.length kc, .int .i64 torn, .int .i64 at_] 40 (0, 0)) by rw [hh2]; exact HB1.out)
    clear c1 l1 hA1 hA2 hh2 HD HB1 hw1
    have l2 : wc.cell? ⟨w.heap.size, 2, none⟩ = some (.int .i64 at_) := cellOf HB2.out 2
    go_upto_region 2 with fail
    go_cut [6, 33] (fun t6 t w' => w' = wc ∧ t = .bool false ∧ t6 = .bool (decide (0 ≤ torn) && decide (torn < D.W.length)))
    case first =>
      by_cases ht : 0 ≤ torn ∧ torn < D.W.length
      · obtain ⟨ha1, ha2⟩ := HAT.out ht
        have hb1 : (decide (0 ≤ torn) && decide (torn < D.W.length)) = true := by simp [ht.1, ht.2]
        have ha1' : decide (at_ < 0) = false := by simp; omega
        have ha2' : decide (256 < at_) = false := by simp; omega
        clear ht
        go_wp2
        go_meet
        case rel => exact ⟨rfl, rfl, by rw [hb1]⟩
      · have hb1 : (decide (0 ≤ torn) && decide (torn < D.W.length)) = false := by
          rw [Bool.and_eq_false_iff]
          by_cases h0 : 0 ≤ torn
          · right; simp; omega
          · left; simpa using h0
        clear ht
        go_wp2
        go_meet
        case rel => exact ⟨rfl, rfl, by rw [hb1]⟩
    case rest =>
      obtain ⟨hwc, rfl, rfl⟩ := hcut
      subst hwc
      clear l2
      have c0 : wc.cell? ⟨p, 0, none⟩ = some (.slice (some ⟨g, 0, none⟩) D.size.toNat cap) := cellOf HD2.out.box 0
      have H1 := hid (show (strs D.H D.size.toNat).length = D.size.toNat * 1 by rw [strs_len, Nat.mul_one])
      have H2 := hid (show ∀ j u, (strs D.H D.size.toNat)[j]? = some u → (wc.alloc (.cells #[] 9)).cell? ((⟨g, 0, none⟩ : Addr).add j) = some u from fun j u hu => by
        have hj : j < D.size.toNat := by have := (List.getElem?_eq_some_iff.1 hu).1; rwa [strs_len] at this
        rw [Addr.add_mid, Nat.zero_add, ← hu, strs_get _ _ _ hj]
        obtain ⟨ga, capa, he, _, _, hcl, _⟩ := HD2.out.heldAt
        obtain ⟨rfl, rfl⟩ : g = ga ∧ cap = capa := by simpa using he
        exact below_adds ((Touch.refl _ wc).alloc _) (hcl j hj))
      have H3 := hid (show ∀ u ∈ strs D.H D.size.toNat, u.oneCell' = true from fun u hu => by
        simp only [strs, List.mem_map] at hu; obtain ⟨i, _, rfl⟩ := hu; rfl)
      have H4 := hid (show 0 + D.size.toNat ≤ maxLen by unfold maxLen; have := hs.2; omega)
      have H5 := hid (show (0 + D.size.toNat) * 16 ≤ 140737488355328 by have := hs.2; omega)
      have H7 := hid (show 0 < D.size.toNat by omega)
      have H6 := hid (show wc.heap.size ≤ (wc.alloc (.cells #[] 9)).heap.size by simp)
      go_upto_region 4 with fail
      go_cut [6, 7] (fun t6 t w' => t6 = .bool (decide (0 ≤ torn) && decide (torn < D.W.length)) ∧ ∃ p2 g2 cap2, t = .pointer (some ⟨p2, 0, none⟩) ∧ IsRef w' wc.heap.size p2 (.slice (some ⟨g2, 0, none⟩) D.size.toNat cap2) (.slice none 0 0) { size := D.size, H := D.H, W := [], steps := 0, left := -1 } ∧ Adds wc w')
      case first =>
        have hbs := build67
        have hplt : p < wc.heap.size := (Array.getElem?_eq_some_iff.1 HD2.out.box).1
        go_wp2_with (at_builtin; refine wpList_append_own _ rfl _ _ 49 rfl wc.heap.size 9 i9 (Str []) 1 16 Tryz.underlying49 hi9 hz0 hz1 hz2 rfl (by decide) (.slice (some ⟨wc.heap.size, 0, none⟩) 0 0) 0 [] rfl (World.ownsRow_lit wc #[] 0 (Nat.le_refl _) (by decide) rfl) ⟨g, 0, none⟩ D.size.toNat cap (strs D.H D.size.toNat) rfl H1.out H2.out H3.out H4.out H5.out H6.out ?_; intro v' w3 hown' hgrow' _; rw [Nat.zero_add] at hown'; obtain ⟨g2, cap2, rfl⟩ := own_pos hown' H7.out)
        have hA : Adds wc w3 := Touch.grown (T := fun _ => False) ((Touch.refl _ wc).alloc _) hgrow' (fun k hk hlt => by simp [Value.ownBlock] at hk; omega)
        go_meet
        case rel =>
          refine ⟨rfl, w3.heap.size, g2, cap2, rfl, ⟨heap_alloc_new w3 _, ?_, World.ownsRow_nil _ _ _ _, fun x hx => (by cases hx), hA.size, hs, HD2.out.good, fun x hx => (by cases hx)⟩, hA.alloc _⟩
          exact own_kept (T := fun _ => False) (by simpa using hown') ((Touch.refl _ w3).alloc _) (fun _ _ => id)
      case rest =>
        rename World => w3
        obtain ⟨rfl, p2, g2, cap2, rfl, hdn, hAn⟩ := hcut
        have HDN := hid hdn
        clear c0 H1 H2 H3 H4 H5 H6 hdn
        go_wp2
        go_loopw [8] (fun t wr => ∃ k : Nat, k ≤ D.W.length ∧ t = .int .i64 k ∧ Hid (IsRef wr wc.heap.size p2 (.slice (some ⟨g2, 0, none⟩) D.size.toNat cap2) (.slice none 0 0) { size := D.size, H := loseTo D.H D.W ks torn at_ k, W := [], steps := 0, left := -1 } ∧ Adds wc wr)) (fun t _ => D.W.length - (intOf t).toNat)
        case atStart => exact ⟨0, Nat.zero_le _, rfl, HDN.out, hAn⟩
        case round =>
          obtain ⟨k, hk, rfl, HH⟩ := hrel
          clear HDN hAn
          have c1r : wr.cell? ⟨p, 1, none⟩ = some (.slice ao D.W.length wcap) := cellOf (HD2.out.adds HH.out.2).box 1
          by_cases hlt : k < D.W.length
          · obtain ⟨gw, rfl, hgwlt, hc, _⟩ := HR.out (by omega)
            have hzv := zero78
            have hAw : Adds w wr := hA3.trans HH.out.2
            have hc0 : wr.cell? ⟨gw, k * 2, none⟩ = some (.int .i64 D.W[k].1) := below_adds hAw (hc k hlt).1
            have hc1 : wr.cell? ⟨gw, k * 2 + 1, none⟩ = some (Str D.W[k].2) := below_adds hAw (hc k hlt).2
            have hp0 : 0 ≤ D.W[k].1 := (HD2.out.places _ (List.getElem_mem hlt)).1
            have hp1 : D.W[k].1 < D.size := (HD2.out.places _ (List.getElem_mem hlt)).2
            have HGD : Hid (D.W[k].2.length = 256) := HD2.out.goodW _ (List.getElem_mem hlt)
            have HWK := hid (show D.W[k]? = some D.W[k] from List.getElem?_eq_getElem hlt)
            clear hc
            generalize D.W[k] = x at hc0 hc1 hp0 hp1 HGD HWK
            obtain ⟨xi, xb⟩ := x
            simp only at hc0 hc1 hp0 hp1 HGD
            obtain ⟨m, rfl⟩ : ∃ m : Nat, xi = m := ⟨xi.toNat, (Int.toNat_of_nonneg hp0).symm⟩
            have hrk : Hid (wr.rangeAt gw (k * 2) (rcells ((m : Int), xb))) := fun j v hv => by
              match j, hv with
              | 0, hv => simp [rcells] at hv; rw [← hv, Nat.add_zero]; exact hc0
              | 1, hv => simp [rcells] at hv; rw [← hv]; exact hc1
              | j + 2, hv => simp [rcells] at hv
            have hi78 : Hid ((Tryz.prog.info? 120).map (·.size) = some (rcells ((m : Int), xb)).length) := info78
            have hi78a : Hid ((Tryz.prog.info? 120).map (·.size) = some (rcells ((m : Int), xb)).toArray.size) := info78
            have ho78 : Hid (#[Value.int .i64 0, Str []].size = (rcells ((m : Int), xb)).toArray.size) := show _ = _ from rfl
            have hset : (wr.alloc (.cells #[.int .i64 0, Str []] 120)).setRow wr.heap.size (rcells ((m : Int), xb)).toArray = wr.alloc (.cells (rcells ((m : Int), xb)).toArray 120) := World.setRow_alloc_new _ _ _ _
            clear hc0 hc1 hp0
            go_upto_region 8 with fail
            go_cut [6, 8, 9] (fun t6 t8 t9 w' => t6 = .bool (decide (0 ≤ torn) && decide (torn < D.W.length)) ∧ t8 = .int .i64 k ∧ t9 = .pointer (some ⟨wr.heap.size, 0, none⟩) ∧ w' = wr.alloc (.cells (rcells ((m : Int), xb)).toArray 120))
            case first =>
              go_wp2_with (first
                | (refine wpList_load_mid rfl 120 _ rfl gw (k * 2) rfl (rcells ((m : Int), xb)) _ hrk.out Tryz.underlying120 rfl hi78.out ?_)
                | (refine wpList_store_row rfl 120 _ _ rfl wr.heap.size (rcells ((m : Int), xb)).toArray rfl rfl 120 #[.int .i64 0, Str []] (heap_alloc_new wr _) hi78a.out ho78.out (all_oneCell_toArray (one_rcells _)) ?_))
              simp only [Act.put]
              go_meet
              case rel => exact ⟨rfl, rfl, rfl, hset⟩
            case rest =>
              rename World => w5
              obtain ⟨rfl, rfl, rfl, hw5⟩ := hcut
              have hA5 : Adds wr w5 := by rw [hw5]; exact (Touch.refl _ wr).alloc _
              have hg5 : w5.heap[wr.heap.size]? = some (.cells (rcells ((m : Int), xb)).toArray 120 (0, 0)) := by rw [hw5]; exact heap_alloc_new wr _
              have x0 : w5.cell? ⟨wr.heap.size, 0, none⟩ = some (.int .i64 (m : Int)) := cellOf hg5 0
              have x1 : w5.cell? ⟨wr.heap.size, 1, none⟩ = some (Str xb) := cellOf hg5 1
              have HD5 := hid (HH.out.1.adds hA5)
              have HA5 := hid (HH.out.2.trans hA5)
              have HB5 := hid (Touch.at HA5.out HB2.out id)
              have l0 : w5.cell? ⟨w.heap.size, 0, none⟩ = some (.slice ka ks.length kc) := cellOf HB5.out 0
              have l1 : w5.cell? ⟨w.heap.size, 1, none⟩ = some (.int .i64 torn) := cellOf HB5.out 1
              have hmn : m < D.size.toNat := by have := hs.1; clear hrk x0 x1 l0 l1 c1r; omega
              obtain ⟨ga, capa, he, _, _, hcl, _⟩ := HD5.out.heldAt
              obtain ⟨rfl, rfl⟩ : g2 = ga ∧ cap2 = capa := by simpa using he
              have hcm := hcl m hmn
              simp only at hcm
              have hfm : w5.frozen? ⟨g2, m, none⟩ = false := by
                obtain ⟨c, hc⟩ := own_type HD5.out.held rfl
                exact frozen_of_row w5 g2 m c 9 hc
              have cp0 : w5.cell? ⟨p2, 0, none⟩ = some (.slice (some ⟨g2, 0, none⟩) D.size.toNat cap2) := cellOf HD5.out.box 0
              have hgood : Hid ((loseTo D.H D.W ks torn at_ k (m : Int)).length = 256) := HH.out.1.good _
              have hq : ((D.size.toNat : Nat) : Int) = D.size := Int.toNat_of_nonneg (by have := hs.1; clear hrk x0 x1 l0 l1 c1r hcm cp0; omega)
              have HADD := hid (show ∀ bs, Adds wc (w5.drew.setCell ⟨g2, m, none⟩ (Str bs)) from fun bs => HA5.out.drew.setCell (fun h => by
                have := (HH.out.1.held.lt g2 rfl).1
                exact absurd h (by show ¬ g2 < _; omega)) _)
              clear hset hg5 hi78 hi78a ho78 hrk hzv hw5 hcl he hA5 c1r
              by_cases hto : (k : Int) = torn
              · have hflag : (decide (0 ≤ torn) && decide (torn < D.W.length)) = true := by rw [← hto]; simp; omega
                have hto' : ((k : Int) == torn) = true := by simp [hto]
                obtain ⟨ha1, ha2⟩ := HAT.out ⟨by omega, by omega⟩
                have l2r : w5.cell? ⟨w.heap.size, 2, none⟩ = some (.int .i64 at_) := cellOf HB5.out 2
                have HST := hid (lose_torn HWK.out hto (H := D.H) (ks := ks) (at_ := at_))
                have HTO := hid hto
                clear hto
                obtain ⟨a, rfl⟩ : ∃ a : Nat, at_ = a := ⟨at_.toNat, (Int.toNat_of_nonneg ha1).symm⟩
                simp only [Int.toNat_natCast] at HST
                have HSET := hid (IsRef.setHeld (D := { size := D.size, H := loseTo D.H D.W ks torn (a : Int) k, W := [], steps := 0, left := -1 }) HD5.out m (xb.take a ++ (loseTo D.H D.W ks torn (a : Int) k (m : Int)).drop a) (by
                  rw [List.length_append, List.length_take, List.length_drop, HGD.out, hgood.out]; omega))
                generalize loseTo D.H D.W ks torn (a : Int) k (m : Int) = hb at hcm hgood HST HSET
                have hbl := hgood.out
                have hxl := HGD.out
                have e1 := sl_to xb a (by omega)
                have e2 := sl_from hb a (by omega)
                have e3 := str_cat (xb.take a) (hb.drop a) (by simp; omega) (by simp; omega)
                go_upto_region 10 with fail
                have hS1 : w5.drew.cell? ⟨p2, 0, none⟩ = some (.slice (some ⟨g2, 0, none⟩) D.size.toNat cap2) ∧ w5.drew.cell? ⟨wr.heap.size, 0, none⟩ = some (.int .i64 (m : Int)) ∧ w5.drew.cell? ⟨wr.heap.size, 1, none⟩ = some (Str xb) ∧ w5.drew.cell? ⟨w.heap.size, 2, none⟩ = some (.int .i64 (a : Int)) ∧ w5.drew.cell? ⟨g2, m, none⟩ = some (Str hb) := ⟨cp0, x0, x1, l2r, hcm⟩
                refine E_begin (S := fun w' => w'.cell? ⟨p2, 0, none⟩ = some (.slice (some ⟨g2, 0, none⟩) D.size.toNat cap2) ∧ w'.cell? ⟨wr.heap.size, 0, none⟩ = some (.int .i64 (m : Int)) ∧ w'.cell? ⟨wr.heap.size, 1, none⟩ = some (Str xb) ∧ w'.cell? ⟨w.heap.size, 2, none⟩ = some (.int .i64 (a : Int)) ∧ w'.cell? ⟨g2, m, none⟩ = some (Str hb)) (X := 24) (by kernel_rfl) ?_
                refine E_put (i := 0) 65 (v := .pointer (some ⟨p2, 0, none⟩)) rfl rfl (by kernel_rfl) (by kernel_rfl) (by kernel_rfl) (by kernel_rfl) (fun _ _ _ h => h) (Or.inl ⟨by rfl, fun w' hw' => ?_⟩) hS1 ?_
                · obtain ⟨q0, q1, q2, q3, q4⟩ := hw'; go_simp
                simp only [Act.put, List.setIfInBounds_toArray, List.set_cons_zero, List.set_cons_succ]
                refine E_put (i := 1) 66 (v := .pointer (some ⟨p2, 0, none⟩)) rfl rfl (by kernel_rfl) (by kernel_rfl) (by kernel_rfl) (by kernel_rfl) (fun _ _ _ h => h) (Or.inl ⟨by rfl, fun w' hw' => ?_⟩) hS1 ?_
                · obtain ⟨q0, q1, q2, q3, q4⟩ := hw'; go_simp
                simp only [Act.put, List.setIfInBounds_toArray, List.set_cons_zero, List.set_cons_succ]
                refine E_put (i := 2) 67 (v := .pointer (some ⟨p2, 0, none⟩)) rfl rfl (by kernel_rfl) (by kernel_rfl) (by kernel_rfl) (by kernel_rfl) (fun _ _ _ h => h) (Or.inl ⟨by rfl, fun w' hw' => ?_⟩) hS1 ?_
                · obtain ⟨q0, q1, q2, q3, q4⟩ := hw'; go_simp
                simp only [Act.put, List.setIfInBounds_toArray, List.set_cons_zero, List.set_cons_succ]
                refine E_put (i := 3) 68 (v := .slice (some ⟨g2, 0, none⟩) D.size.toNat cap2) rfl rfl (by kernel_rfl) (by kernel_rfl) (by kernel_rfl) (by kernel_rfl) (fun _ _ _ h => h) (Or.inl ⟨by rfl, fun w' hw' => ?_⟩) hS1 ?_
                · obtain ⟨q0, q1, q2, q3, q4⟩ := hw'; go_simp
                simp only [Act.put, List.setIfInBounds_toArray, List.set_cons_zero, List.set_cons_succ]
                refine E_put (i := 4) 69 (v := .pointer (some ⟨wr.heap.size, 0, none⟩)) rfl rfl (by kernel_rfl) (by kernel_rfl) (by kernel_rfl) (by kernel_rfl) (fun _ _ _ h => h) (Or.inl ⟨by rfl, fun w' hw' => ?_⟩) hS1 ?_
                · obtain ⟨q0, q1, q2, q3, q4⟩ := hw'; go_simp
                simp only [Act.put, List.setIfInBounds_toArray, List.set_cons_zero, List.set_cons_succ]
                refine E_put (i := 5) 70 (v := .int .i64 (m : Int)) rfl rfl (by kernel_rfl) (by kernel_rfl) (by kernel_rfl) (by kernel_rfl) (fun _ _ _ h => h) (Or.inl ⟨by rfl, fun w' hw' => ?_⟩) hS1 ?_
                · obtain ⟨q0, q1, q2, q3, q4⟩ := hw'; go_simp
                simp only [Act.put, List.setIfInBounds_toArray, List.set_cons_zero, List.set_cons_succ]
                refine E_put (i := 6) 71 (v := .pointer (some ⟨wr.heap.size, 1, none⟩)) rfl rfl (by kernel_rfl) (by kernel_rfl) (by kernel_rfl) (by kernel_rfl) (fun _ _ _ h => h) (Or.inl ⟨by rfl, fun w' hw' => ?_⟩) hS1 ?_
                · obtain ⟨q0, q1, q2, q3, q4⟩ := hw'; go_simp
                simp only [Act.put, List.setIfInBounds_toArray, List.set_cons_zero, List.set_cons_succ]
                refine E_put (i := 7) 72 (v := Str xb) rfl rfl (by kernel_rfl) (by kernel_rfl) (by kernel_rfl) (by kernel_rfl) (fun _ _ _ h => h) (Or.inl ⟨by rfl, fun w' hw' => ?_⟩) hS1 ?_
                · obtain ⟨q0, q1, q2, q3, q4⟩ := hw'; go_simp
                simp only [Act.put, List.setIfInBounds_toArray, List.set_cons_zero, List.set_cons_succ]
                refine E_put (i := 8) 73 (v := .pointer (some ⟨w.heap.size, 2, none⟩)) rfl rfl (by kernel_rfl) (by kernel_rfl) (by kernel_rfl) (by kernel_rfl) (fun _ _ _ h => h) (Or.inl ⟨by rfl, fun w' hw' => ?_⟩) hS1 ?_
                · obtain ⟨q0, q1, q2, q3, q4⟩ := hw'; go_simp
                simp only [Act.put, List.setIfInBounds_toArray, List.set_cons_zero, List.set_cons_succ]
                refine E_put (i := 9) 74 (v := .int .i64 (a : Int)) rfl rfl (by kernel_rfl) (by kernel_rfl) (by kernel_rfl) (by kernel_rfl) (fun _ _ _ h => h) (Or.inl ⟨by rfl, fun w' hw' => ?_⟩) hS1 ?_
                · obtain ⟨q0, q1, q2, q3, q4⟩ := hw'; go_simp
                simp only [Act.put, List.setIfInBounds_toArray, List.set_cons_zero, List.set_cons_succ]
                refine E_put (i := 10) 75 (v := Str (xb.take a)) rfl rfl (by kernel_rfl) (by kernel_rfl) (by kernel_rfl) (by kernel_rfl) (fun _ _ _ h => h) (Or.inl ⟨by rfl, fun w' hw' => ?_⟩) hS1 ?_
                · obtain ⟨q0, q1, q2, q3, q4⟩ := hw'; go_simp
                simp only [Act.put, List.setIfInBounds_toArray, List.set_cons_zero, List.set_cons_succ]
                refine E_put (i := 11) 76 (v := .pointer (some ⟨p2, 0, none⟩)) rfl rfl (by kernel_rfl) (by kernel_rfl) (by kernel_rfl) (by kernel_rfl) (fun _ _ _ h => h) (Or.inl ⟨by rfl, fun w' hw' => ?_⟩) hS1 ?_
                · obtain ⟨q0, q1, q2, q3, q4⟩ := hw'; go_simp
                simp only [Act.put, List.setIfInBounds_toArray, List.set_cons_zero, List.set_cons_succ]
                refine E_put (i := 12) 77 (v := .pointer (some ⟨p2, 0, none⟩)) rfl rfl (by kernel_rfl) (by kernel_rfl) (by kernel_rfl) (by kernel_rfl) (fun _ _ _ h => h) (Or.inl ⟨by rfl, fun w' hw' => ?_⟩) hS1 ?_
                · obtain ⟨q0, q1, q2, q3, q4⟩ := hw'; go_simp
                simp only [Act.put, List.setIfInBounds_toArray, List.set_cons_zero, List.set_cons_succ]
                refine E_put (i := 13) 78 (v := .pointer (some ⟨p2, 0, none⟩)) rfl rfl (by kernel_rfl) (by kernel_rfl) (by kernel_rfl) (by kernel_rfl) (fun _ _ _ h => h) (Or.inl ⟨by rfl, fun w' hw' => ?_⟩) hS1 ?_
                · obtain ⟨q0, q1, q2, q3, q4⟩ := hw'; go_simp
                simp only [Act.put, List.setIfInBounds_toArray, List.set_cons_zero, List.set_cons_succ]
                refine E_put (i := 14) 79 (v := .slice (some ⟨g2, 0, none⟩) D.size.toNat cap2) rfl rfl (by kernel_rfl) (by kernel_rfl) (by kernel_rfl) (by kernel_rfl) (fun _ _ _ h => h) (Or.inl ⟨by rfl, fun w' hw' => ?_⟩) hS1 ?_
                · obtain ⟨q0, q1, q2, q3, q4⟩ := hw'; go_simp
                simp only [Act.put, List.setIfInBounds_toArray, List.set_cons_zero, List.set_cons_succ]
                refine E_put (i := 15) 80 (v := .pointer (some ⟨wr.heap.size, 0, none⟩)) rfl rfl (by kernel_rfl) (by kernel_rfl) (by kernel_rfl) (by kernel_rfl) (fun _ _ _ h => h) (Or.inl ⟨by rfl, fun w' hw' => ?_⟩) hS1 ?_
                · obtain ⟨q0, q1, q2, q3, q4⟩ := hw'; go_simp
                simp only [Act.put, List.setIfInBounds_toArray, List.set_cons_zero, List.set_cons_succ]
                refine E_put (i := 16) 81 (v := .int .i64 (m : Int)) rfl rfl (by kernel_rfl) (by kernel_rfl) (by kernel_rfl) (by kernel_rfl) (fun _ _ _ h => h) (Or.inl ⟨by rfl, fun w' hw' => ?_⟩) hS1 ?_
                · obtain ⟨q0, q1, q2, q3, q4⟩ := hw'; go_simp
                simp only [Act.put, List.setIfInBounds_toArray, List.set_cons_zero, List.set_cons_succ]
                refine E_put (i := 17) 82 (v := .pointer (some ⟨g2, m, none⟩)) rfl rfl (by kernel_rfl) (by kernel_rfl) (by kernel_rfl) (by kernel_rfl) (fun _ _ _ h => h) (Or.inl ⟨by rfl, fun w' hw' => ?_⟩) hS1 ?_
                · obtain ⟨q0, q1, q2, q3, q4⟩ := hw'; go_simp
                simp only [Act.put, List.setIfInBounds_toArray, List.set_cons_zero, List.set_cons_succ]
                refine E_put (i := 18) 83 (v := Str hb) rfl rfl (by kernel_rfl) (by kernel_rfl) (by kernel_rfl) (by kernel_rfl) (fun _ _ _ h => h) (Or.inl ⟨by rfl, fun w' hw' => ?_⟩) hS1 ?_
                · obtain ⟨q0, q1, q2, q3, q4⟩ := hw'; go_simp
                simp only [Act.put, List.setIfInBounds_toArray, List.set_cons_zero, List.set_cons_succ]
                refine E_put (i := 19) 84 (v := .pointer (some ⟨w.heap.size, 2, none⟩)) rfl rfl (by kernel_rfl) (by kernel_rfl) (by kernel_rfl) (by kernel_rfl) (fun _ _ _ h => h) (Or.inl ⟨by rfl, fun w' hw' => ?_⟩) hS1 ?_
                · obtain ⟨q0, q1, q2, q3, q4⟩ := hw'; go_simp
                simp only [Act.put, List.setIfInBounds_toArray, List.set_cons_zero, List.set_cons_succ]
                refine E_put (i := 20) 85 (v := .int .i64 (a : Int)) rfl rfl (by kernel_rfl) (by kernel_rfl) (by kernel_rfl) (by kernel_rfl) (fun _ _ _ h => h) (Or.inl ⟨by rfl, fun w' hw' => ?_⟩) hS1 ?_
                · obtain ⟨q0, q1, q2, q3, q4⟩ := hw'; go_simp
                simp only [Act.put, List.setIfInBounds_toArray, List.set_cons_zero, List.set_cons_succ]
                refine E_put (i := 21) 86 (v := Str (hb.drop a)) rfl rfl (by kernel_rfl) (by kernel_rfl) (by kernel_rfl) (by kernel_rfl) (fun _ _ _ h => h) (Or.inl ⟨by rfl, fun w' hw' => ?_⟩) hS1 ?_
                · obtain ⟨q0, q1, q2, q3, q4⟩ := hw'; go_simp
                simp only [Act.put, List.setIfInBounds_toArray, List.set_cons_zero, List.set_cons_succ]
                refine E_put (i := 22) 87 (v := Str (xb.take a ++ hb.drop a)) rfl rfl (by kernel_rfl) (by kernel_rfl) (by kernel_rfl) (by kernel_rfl) (fun _ _ _ h => h) (Or.inl ⟨by rfl, fun w' hw' => ?_⟩) hS1 ?_
                · obtain ⟨q0, q1, q2, q3, q4⟩ := hw'; go_simp
                simp only [Act.put, List.setIfInBounds_toArray, List.set_cons_zero, List.set_cons_succ]
                refine E_put (i := 23) 88 (v := .pointer (some ⟨g2, m, none⟩)) rfl rfl (by kernel_rfl) (by kernel_rfl) (by kernel_rfl) (by kernel_rfl) (fun _ _ _ h => h) (Or.inl ⟨by rfl, fun w' hw' => ?_⟩) hS1 ?_
                · obtain ⟨q0, q1, q2, q3, q4⟩ := hw'; go_simp
                simp only [Act.put, List.setIfInBounds_toArray, List.set_cons_zero, List.set_cons_succ]
                refine E_do (i := 24) none (by kernel_rfl) rfl rfl rfl (fun K hK => ?_)
                refine wp_store_str (.tmp 88) (.tmp 87) rfl g2 m _ rfl rfl hcm hfm ?_
                refine hK _ _ (fun c => absurd rfl c) ?_
                clear hK K
                simp only [Act.put]
                refine E_done (by kernel_rfl) ?_ _
                go_wp2
                go_roundw
                case rel =>
                  refine ⟨k + 1, by omega, by go_num, ?_, ?_⟩
                  · rw [HST.out]; exact HSET.out.adds (Touch.refl _ _).drew
                  · exact HADD.out _
                case measure => simp [intOf]; omega
              · have hto' : ((k : Int) == torn) = false := by simp [hto]
                have HTO := hid hto
                clear hto
                go_upto_region 9 with fail
                go_cut [6, 64] (fun t6 t w' => w5 = w' ∧ t = .bool false ∧ t6 = .bool (decide (0 ≤ torn) && decide (torn < D.W.length)))
                case first =>
                  by_cases hfl : (decide (0 ≤ torn) && decide (torn < (D.W.length : Int))) = true
                  · go_wp2
                    go_meet
                    case rel => exact ⟨rfl, rfl, by rw [hfl]⟩
                  · have hfl' : (decide (0 ≤ torn) && decide (torn < (D.W.length : Int))) = false := by simpa using hfl
                    clear hfl
                    go_wp2
                    go_meet
                    case rel => exact ⟨rfl, rfl, by rw [hfl']⟩
                case rest =>
                  obtain ⟨hw6, rfl, rfl⟩ := hcut
                  subst hw6
                  by_cases hkl : k < ks.length
                  · obtain ⟨kb, ko, rfl, hkc⟩ := HK.out k hkl
                    have hkc5 : w5.cell? ⟨kb, ko + k, none⟩ = some (.bool ks[k]) := below_adds (hA3.trans HA5.out) hkc
                    cases hkv : ks[k] with
                    | true =>
                      have HST := hid (lose_kept HWK.out HTO.out (show ks.getD k false = true by simp [hkl, hkv]) (H := D.H) (at_ := at_))
                      have HSET := hid (IsRef.setHeld (D := { size := D.size, H := loseTo D.H D.W ks torn at_ k, W := [], steps := 0, left := -1 }) HD5.out m xb HGD.out)
                      rw [hkv] at hkc5
                      clear hkv hkc
                      go_upto_region 12 with fail
                      have hS1 : w5.drew.cell? ⟨p2, 0, none⟩ = some (.slice (some ⟨g2, 0, none⟩) D.size.toNat cap2) ∧ w5.drew.cell? ⟨wr.heap.size, 0, none⟩ = some (.int .i64 (m : Int)) ∧ w5.drew.cell? ⟨wr.heap.size, 1, none⟩ = some (Str xb) := ⟨cp0, x0, x1⟩
                      refine E_begin (S := fun w' => w'.cell? ⟨p2, 0, none⟩ = some (.slice (some ⟨g2, 0, none⟩) D.size.toNat cap2) ∧ w'.cell? ⟨wr.heap.size, 0, none⟩ = some (.int .i64 (m : Int)) ∧ w'.cell? ⟨wr.heap.size, 1, none⟩ = some (Str xb)) (X := 9) (by kernel_rfl) ?_
                      refine E_put (i := 0) 101 (v := .pointer (some ⟨p2, 0, none⟩)) rfl rfl (by kernel_rfl) (by kernel_rfl) (by kernel_rfl) (by kernel_rfl) (fun _ _ _ h => h) (Or.inl ⟨by rfl, fun w' hw' => ?_⟩) hS1 ?_
                      · obtain ⟨q0, q1, q2⟩ := hw'; go_simp
                      simp only [Act.put, List.setIfInBounds_toArray, List.set_cons_zero, List.set_cons_succ]
                      refine E_put (i := 1) 102 (v := .pointer (some ⟨p2, 0, none⟩)) rfl rfl (by kernel_rfl) (by kernel_rfl) (by kernel_rfl) (by kernel_rfl) (fun _ _ _ h => h) (Or.inl ⟨by rfl, fun w' hw' => ?_⟩) hS1 ?_
                      · obtain ⟨q0, q1, q2⟩ := hw'; go_simp
                      simp only [Act.put, List.setIfInBounds_toArray, List.set_cons_zero, List.set_cons_succ]
                      refine E_put (i := 2) 103 (v := .pointer (some ⟨p2, 0, none⟩)) rfl rfl (by kernel_rfl) (by kernel_rfl) (by kernel_rfl) (by kernel_rfl) (fun _ _ _ h => h) (Or.inl ⟨by rfl, fun w' hw' => ?_⟩) hS1 ?_
                      · obtain ⟨q0, q1, q2⟩ := hw'; go_simp
                      simp only [Act.put, List.setIfInBounds_toArray, List.set_cons_zero, List.set_cons_succ]
                      refine E_put (i := 3) 104 (v := .slice (some ⟨g2, 0, none⟩) D.size.toNat cap2) rfl rfl (by kernel_rfl) (by kernel_rfl) (by kernel_rfl) (by kernel_rfl) (fun _ _ _ h => h) (Or.inl ⟨by rfl, fun w' hw' => ?_⟩) hS1 ?_
                      · obtain ⟨q0, q1, q2⟩ := hw'; go_simp
                      simp only [Act.put, List.setIfInBounds_toArray, List.set_cons_zero, List.set_cons_succ]
                      refine E_put (i := 4) 105 (v := .pointer (some ⟨wr.heap.size, 0, none⟩)) rfl rfl (by kernel_rfl) (by kernel_rfl) (by kernel_rfl) (by kernel_rfl) (fun _ _ _ h => h) (Or.inl ⟨by rfl, fun w' hw' => ?_⟩) hS1 ?_
                      · obtain ⟨q0, q1, q2⟩ := hw'; go_simp
                      simp only [Act.put, List.setIfInBounds_toArray, List.set_cons_zero, List.set_cons_succ]
                      refine E_put (i := 5) 106 (v := .int .i64 (m : Int)) rfl rfl (by kernel_rfl) (by kernel_rfl) (by kernel_rfl) (by kernel_rfl) (fun _ _ _ h => h) (Or.inl ⟨by rfl, fun w' hw' => ?_⟩) hS1 ?_
                      · obtain ⟨q0, q1, q2⟩ := hw'; go_simp
                      simp only [Act.put, List.setIfInBounds_toArray, List.set_cons_zero, List.set_cons_succ]
                      refine E_put (i := 6) 107 (v := .pointer (some ⟨wr.heap.size, 1, none⟩)) rfl rfl (by kernel_rfl) (by kernel_rfl) (by kernel_rfl) (by kernel_rfl) (fun _ _ _ h => h) (Or.inl ⟨by rfl, fun w' hw' => ?_⟩) hS1 ?_
                      · obtain ⟨q0, q1, q2⟩ := hw'; go_simp
                      simp only [Act.put, List.setIfInBounds_toArray, List.set_cons_zero, List.set_cons_succ]
                      refine E_put (i := 7) 108 (v := Str xb) rfl rfl (by kernel_rfl) (by kernel_rfl) (by kernel_rfl) (by kernel_rfl) (fun _ _ _ h => h) (Or.inl ⟨by rfl, fun w' hw' => ?_⟩) hS1 ?_
                      · obtain ⟨q0, q1, q2⟩ := hw'; go_simp
                      simp only [Act.put, List.setIfInBounds_toArray, List.set_cons_zero, List.set_cons_succ]
                      refine E_put (i := 8) 109 (v := .pointer (some ⟨g2, m, none⟩)) rfl rfl (by kernel_rfl) (by kernel_rfl) (by kernel_rfl) (by kernel_rfl) (fun _ _ _ h => h) (Or.inl ⟨by rfl, fun w' hw' => ?_⟩) hS1 ?_
                      · obtain ⟨q0, q1, q2⟩ := hw'; go_simp
                      simp only [Act.put, List.setIfInBounds_toArray, List.set_cons_zero, List.set_cons_succ]
                      refine E_do (i := 9) none (by kernel_rfl) rfl rfl rfl (fun K hK => ?_)
                      refine wp_store_str (.tmp 109) (.tmp 108) rfl g2 m _ rfl rfl hcm hfm ?_
                      refine hK _ _ (fun c => absurd rfl c) ?_
                      clear hK K
                      simp only [Act.put]
                      refine E_done (by kernel_rfl) ?_ _
                      go_wp2
                      go_roundw
                      case rel =>
                        refine ⟨k + 1, by omega, by go_num, ?_, ?_⟩
                        · rw [HST.out]; exact HSET.out.adds (Touch.refl _ _).drew
                        · exact HADD.out _
                      case measure => simp [intOf]; omega
                    | false =>
                      have HST := hid (lose_left HWK.out HTO.out (show ks.getD k false = false by simp [hkl, hkv]) (H := D.H) (at_ := at_))
                      rw [hkv] at hkc5
                      clear hkv hkc
                      go_wp2
                      go_roundw
                      case rel => exact ⟨k + 1, by omega, by go_num, by rw [HST.out]; exact HD5.out, HA5.out⟩
                      case measure => simp [intOf]; omega
                  · have HST := hid (lose_left HWK.out HTO.out (show ks.getD k false = false by rw [List.getD_eq_getElem?_getD, List.getElem?_eq_none (by omega)]; rfl) (H := D.H) (at_ := at_))
                    go_wp2
                    go_roundw
                    case rel => exact ⟨k + 1, by omega, by go_num, by rw [HST.out]; exact HD5.out, HA5.out⟩
                    case measure => simp [intOf]; omega
          · obtain rfl : k = D.W.length := by omega
            go_wp2
            go_ret2
            refine ⟨p2, _, rfl, ?_, HH.out.1.mono (Nat.le_trans hB hA3.size), hA3.trans HH.out.2⟩
            have := hA3.size; have := HH.out.1.low; omega

end Go.Proofs.YtjbdchgadfhffaaGreatDoor
