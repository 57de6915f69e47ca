/- What was flushed is told by another pool. -/
import Derived.Test.YtjbdchgadfhffaaDoorQ39
import Derived.Deep.RegionWith
import Derived.Deep.QuietTactic
import Derived.BigQuiet
namespace Go.Proofs.YtjbdchgadfhffaaDoor
open Go.RowKit

set_option maxRecDepth 100000 in
set_option maxHeartbeats 3000000 in
theorem lasts11 (a1 a2 : Option Addr) (len1 len2 cap1 cap2 : Nat) (w : World) (hT : Tab w) (hat1 : NumsAt w a1 len1) (hat2 : NumsAt w a2 len2) : Calls Tryd.prog 5 #[.slice a1 len1 cap1, .slice a2 len2 cap2] w (Adding (.bool true) w) := by
  have HO := hid (show Calls Tryd.prog 18 #[.int .i64 6] w (POpd w 6) from opened_any 6 (by decide) w hT)
  have HW := hid (fun w' (hA : Adds w w') => works11 w' (hT.adds hA))
  have HPl := hid (fun (w' : World) (no : Nat) (hn : no < 6) (c : UInt8) (z : Int) (hz : z = (c.toNat : Int)) => show Calls Tryd.prog 20 #[.int .i64 (no : Int), .int .u8 z] w' (PPl w' (pl no c)) by rw [hz]; exact plain_any no c w' (by omega))
  have HAt1 := hid hat1
  have HAt2 := hid hat2
  have hzv := zeroArr
  clear hT hat1 hat2
  go_enter Tryd.func5, Tryd.ntmps5
  go_upto_region 4 with (first
    | (go_at_call 18; refine HO.out.mono ?_; rintro e w1 ⟨p, dp, rfl, HL⟩)
    | (go_at_call 17; refine (HW.out w1 HL.out.adds).mono ?_; rintro e w2 ⟨rfl, hA2⟩; have HL2 := hid (HL.out.add hA2); clear hA2))
  unfold Ptr at *
  have HCv := hid (fun (w' : World) (a : Option Addr) (k : Nat) (bs : List UInt8) (h : At w' a bs) (hl : bs.length = 256) => show (convert 22 9 (.slice a 256 k)).run Tryd.prog w' = .ok (sv bs) w' by
    have q := conv_at w' a bs k h
    rw [hl] at q
    exact q)
  have HPu := hid (fun (w' : World) (X : List (Nat × Obj)) (D : dSt) (n k : Nat) (s : F.Po) (f : Nat → Option UInt8) (all : Bool) (no : Nat) (hn : no < 6) (c : UInt8) (hnn : n ≤ 1000) (h : LpX w w' X p dp s D n k) (hp : Ph s f all) (pa : Option Addr) (pk : Nat) (h1 : At w' pa (pl no c)) (h2 : 256 ≤ pk) (h3 : (pl no c).length = 256) => show Calls Tryd.prog 9 #[.pointer (some ⟨p, 0, none⟩), .int .i64 (no : Int), .slice pa 256 pk] w' (fun e w'' => e = .returned (.int .i64 0) ∧ Hid (LpX w w'' X p dp (F.putS s (no : Int) (pl no c)) D (n + 1) k ∧ Ph (F.putS s (no : Int) (pl no c)) (say f no c) all)) by
    have e := hp.put h.e.good hn c
    refine (lx_put h (by omega) (no : Int) pa (pl no c) 256 pk h3 h2 h1).mono ?_
    rintro e' w'' ⟨rfl, H⟩
    exact ⟨by rw [e.1]; rfl, H.out, e.2⟩)
  have HAc := hid (fun (w' : World) (X : List (Nat × Obj)) (D : dSt) (n k : Nat) (s : F.Po) (h : LpX w w' X p dp s D n k) => show Calls Tryd.prog 12 #[.pointer (some ⟨p, 0, none⟩)] w' _ from lx_accept h)
  have HFl := hid (fun (w' : World) (X : List (Nat × Obj)) (n : Nat) (s : F.Po) (f : Nat → Option UInt8) (h : LpX w w' X p dp s (dSt.new 6) n 0) (ha : Pa s f true) (hn : n ≤ 1000) => show Calls Tryd.prog 10 #[.pointer (some ⟨p, 0, none⟩)] w' (fun e w'' => e = .returned (.int .i64 0) ∧ ∃ D1 s1 k1, Hid (LpX w w'' X p dp s1 D1 n k1 ∧ k1 ≤ 10 ∧ Dk D1 f ∧ D1.size = 6 ∧ Ph s1 f false ∧ F.which s1 F.isDirty = [])) by
    have e := ha.flush h.e.good
    have hd : (F.which s F.isDirty).length ≤ 8 := by
      have h1 := h.e.good.len
      have h2 := ha.six.mo
      unfold F.which
      rw [length_rise, List.length_map]
      have := List.length_filter_le F.isDirty s.L
      omega
    refine (lx_flush h (by omega)).mono ?_
    rintro e' w'' ⟨rfl, H⟩
    refine ⟨by rw [e.1], _, _, _, H.out, by omega, e.2.1, ?_, e.2.2.1, e.2.2.2⟩
    rw [fl_size]; rfl)
  have HDi := hid (fun (w' : World) (X : List (Nat × Obj)) (D : dSt) (n k : Nat) (s : F.Po) (h : LpX w w' X p dp s D n k) (h0 : F.which s F.isDirty = []) => show Calls Tryd.prog 15 #[.pointer (some ⟨p, 0, none⟩)] w' (fun e w'' => ∃ ad kd, e = .returned (.slice ad 0 kd) ∧ Hid (Adds w' w'')) by
    have q := lp_dirty h.e
    rw [h0] at q
    refine q.mono ?_
    rintro e w'' ⟨v, rfl, H⟩
    obtain ⟨ah, kh, rfl, hna⟩ := row_nat H.out.1
    exact ⟨ah, kh, rfl, H.out.2⟩)
  have HOp := hid (fun (w' : World) (X : List (Nat × Obj)) (D : dSt) (n k : Nat) (s : F.Po) (h : LpX w w' X p dp s D n k) (hD : D.size = 6) => show Calls Tryd.prog 7 #[.pointer (some ⟨dp, 0, none⟩), .int .i64 0, .int .i64 6, .int .i64 1] w' (fun e w'' => ∃ q, e = .returned (.tuple #[.pointer (some ⟨q, 0, none⟩), .int .i64 0]) ∧ Hid (L2E w w'' X p q dp s ⟨0, 6, 1, []⟩ D n 0 k)) from l2_open h 0 6 1 (decide_eq_true ⟨by decide, by decide, by decide, by rw [hD]; decide, by decide, by decide⟩))
  go_upto_region 5 with fail
  obtain ⟨w3, hw3⟩ : ∃ w3 : World, w3 = (w2.alloc (.cells (arr f0) 49)).alloc (.cells (arr f0) 49) := ⟨_, rfl⟩
  have hz2 := HL2.out.adds.size
  have HX3 : Hid (LpX w w3 [(w2.heap.size, AObj f0), (w2.heap.size + 1, AObj f0)] p dp ⟨0, 6, 6, []⟩ (dSt.new 6) 0 0) := by
    have q1 := HL2.out.x.more ((Touch.refl _ w2).alloc (.cells (arr f0) 49)) w2.heap.size _ (heap_alloc_new w2 _) (Nat.le_refl _)
    have q2 := q1.more ((Touch.refl _ _).alloc (.cells (arr f0) 49)) (w2.heap.size + 1) _ (by rw [← show (w2.alloc (.cells (arr f0) 49)).heap.size = w2.heap.size + 1 by simp]; exact heap_alloc_new _ _) (by simp)
    rw [hw3]
    exact q2.fewer (fun x hx => by simp only [List.mem_cons, List.not_mem_nil, or_false] at hx ⊢; rcases hx with rfl | rfl; exact .inr rfl; exact .inl rfl)
  have HLow := hid hz2
  rw [← hw3]
  generalize hgF : w2.heap.size = gF at *
  clear hw3 hgF hz2
  go_wp2_with fail
  go_loopw [9] (fun t wr => ∃ (i : Nat) (f : Nat → Option UInt8) (s : F.Po), i ≤ 20 ∧ t = .int .i64 (i : Int) ∧ Hid (LpX w wr [(gF, AObj f), (gF + 1, AObj f0)] p dp s (dSt.new 6) i 0 ∧ Ph s f true)) (fun t _ => 20 - (intOf t).toNat)
  case atStart => exact ⟨0, f0, _, by omega, rfl, HX3.out, ph0⟩
  case round =>
    obtain ⟨i, f, s, hi, rfl, HI⟩ := hrel
    go_upto_region 6 with fail
    go_cut [37] from 30 to 61 (fun v wx => v = .bool (decide (i < len1 ∧ i < 20)) ∧ wx = wr)
    case first =>
      by_cases hl : i < len1
      · have d1' : decide ((i : Int) < (len1 : Int)) = true := by simpa using hl
        go_wp2_with fail
        all_goals (go_meet; case rel => exact ⟨congrArg Value.bool (by by_cases h20 : i < 20 <;> simp [h20, hl] <;> omega), rfl⟩)
      · have d1' : decide ((i : Int) < (len1 : Int)) = false := by simpa using hl
        go_wp2_with fail
        all_goals (go_meet; case rel => exact ⟨congrArg Value.bool (by by_cases h20 : i < 20 <;> simp [h20, hl] <;> omega), rfl⟩)
    case rest =>
      obtain ⟨rfl, rfl⟩ := hcut
      by_cases hb : i < len1 ∧ i < 20
      · have d1 : decide (i < len1 ∧ i < 20) = true := decide_eq_true hb
        rw [d1]
        obtain ⟨b, o, z, ea, hz⟩ := HAt1.out i hb.1
        have hc : wc.cell? ⟨b, o + i, none⟩ = some (.int .i64 z) := below_adds HI.out.1.e.adds hz
        obtain ⟨c, hcd⟩ : ∃ c, c = six z := ⟨_, rfl⟩
        have hc6 : c < 6 := by rw [hcd]; exact six_lt z
        have hcz : wrap64 ((IntKind.u64.wrap z).tmod 6) = (c : Int) := by rw [hcd]; exact six_wrap z
        have hl1 : i < len1 := hb.1
        have hl20 : i < 20 := hb.2
        subst ea
        clear hz hcd hb d1
        have hbw : IntKind.u8.wrap (i : Int) = ((byt i).toNat : Int) := byt_wrap (by omega)
        go_upto_region 11 with (first
          | (go_at_call 20; refine (HPl.out _ c hc6 (byt i) _ (by rw [← hbw])).mono ?_; rintro e w4 ⟨pa, pk, rfl, Hp⟩)
          | (go_at_call 9; refine (HPu.out _ _ _ i 0 s f true c hc6 (byt i) (by omega) (HI.out.1.add Hp.out.2.2.2.2) HI.out.2 pa pk Hp.out.2.1 Hp.out.2.2.1 Hp.out.2.2.2.1).mono ?_; rintro e w5 ⟨rfl, H5⟩))
        go_wp2_with (first
          | (go_at_call 20; refine (HPl.out _ c hc6 (byt i) _ (by rw [← hbw])).mono ?_; rintro e w6 ⟨pa2, pk2, rfl, Hp2⟩; have hcv := HCv.out _ pa2 pk2 _ Hp2.out.2.1 Hp2.out.2.2.2.1; have H6 := hid (H5.out.1.add Hp2.out.2.2.2.2); have hcell := cellOf (H6.out.at (gF, AObj f) List.mem_cons_self) c; have hgt := arr_get f hc6; have hfr := frozen_of_row w6 gF c _ 49 (H6.out.at (gF, AObj f) List.mem_cons_self)))
        go_roundw
        case rel => exact ⟨i + 1, say f c (byt i), _, by omega, by go_num, lx_say H6.out (fun x hx => by simp at hx; rw [hx]; simp) HLow.out hc6 (byt i), H5.out.2⟩
        case measure => simp [intOf]; omega
      · have d1 : decide (i < len1 ∧ i < 20) = false := decide_eq_false hb
        rw [d1]
        clear hb d1
        have HPa := hid HI.out.2.acc
        go_upto_region 15 with (first
          | (go_at_call 12; refine (HAc.out _ _ _ _ _ _ HI.out.1).mono ?_; rintro e w4 ⟨za, rfl, H4⟩)
          | (go_at_call 10; refine (HFl.out _ _ _ _ _ H4.out HPa.out (by omega)).mono ?_; rintro e w5 ⟨rfl, D1, s1, k1, H5⟩)
          | (go_at_call 15; refine (HDi.out _ _ _ _ _ _ H5.out.1 H5.out.2.2.2.2.2).mono ?_; rintro e w6 ⟨ad, kd, rfl, H6⟩))
        have H7 := hid (H5.out.1.add H6.out)
        have b7 := H7.out.at (gF, AObj f) List.mem_cons_self
        have b8 := H7.out.at (gF + 1, AObj f0) (List.mem_cons_of_mem _ List.mem_cons_self)
        have c0 : w6.cell? ⟨gF, 0, none⟩ = some (sv (tx 0 (f 0))) := cellOf b7 0
        have e0 : w6.cell? ⟨gF + 1, 0, none⟩ = some (sv (tx 0 (f0 0))) := cellOf b8 0
        have r0 := frozen_of_row w6 (gF + 1) 0 _ 49 b8
        have c1 : w6.cell? ⟨gF, 1, none⟩ = some (sv (tx 1 (f 1))) := cellOf b7 1
        have e1 : w6.cell? ⟨gF + 1, 1, none⟩ = some (sv (tx 1 (f0 1))) := cellOf b8 1
        have r1 := frozen_of_row w6 (gF + 1) 1 _ 49 b8
        have c2 : w6.cell? ⟨gF, 2, none⟩ = some (sv (tx 2 (f 2))) := cellOf b7 2
        have e2 : w6.cell? ⟨gF + 1, 2, none⟩ = some (sv (tx 2 (f0 2))) := cellOf b8 2
        have r2 := frozen_of_row w6 (gF + 1) 2 _ 49 b8
        have c3 : w6.cell? ⟨gF, 3, none⟩ = some (sv (tx 3 (f 3))) := cellOf b7 3
        have e3 : w6.cell? ⟨gF + 1, 3, none⟩ = some (sv (tx 3 (f0 3))) := cellOf b8 3
        have r3 := frozen_of_row w6 (gF + 1) 3 _ 49 b8
        have c4 : w6.cell? ⟨gF, 4, none⟩ = some (sv (tx 4 (f 4))) := cellOf b7 4
        have e4 : w6.cell? ⟨gF + 1, 4, none⟩ = some (sv (tx 4 (f0 4))) := cellOf b8 4
        have r4 := frozen_of_row w6 (gF + 1) 4 _ 49 b8
        have c5 : w6.cell? ⟨gF, 5, none⟩ = some (sv (tx 5 (f 5))) := cellOf b7 5
        have e5 : w6.cell? ⟨gF + 1, 5, none⟩ = some (sv (tx 5 (f0 5))) := cellOf b8 5
        have r5 := frozen_of_row w6 (gF + 1) 5 _ 49 b8
        go_upto_region 16 with fail
        have H8 := hid (lx_all H7.out (by omega) (by have := HLow.out; omega))
        clear c0 c1 c2 c3 c4 c5 e0 e1 e2 e3 e4 e5 r0 r1 r2 r3 r4 r5 b7 b8
        have HD1 := hid (And.intro H5.out.2.2.1 (And.intro H5.out.2.2.2.1 H5.out.2.1))
        have HP1 := hid H5.out.2.2.2.2.1
        go_wp2_with fail
        go_loopw [11] (fun t wr => ∃ (j : Nat) (f2 : Nat → Option UInt8) (s2 : F.Po), j ≤ 20 ∧ t = .int .i64 (j : Int) ∧ Hid (LpX w wr [(gF + 1, AObj f2), (gF, AObj f)] p dp s2 D1 (i + j) k1 ∧ Ph s2 f2 false ∧ ∀ no, f2 no = none → f no = none)) (fun t _ => 20 - (intOf t).toNat)
        case atStart => exact ⟨0, f, _, by omega, rfl, H8.out, HP1.out, fun _ h => h⟩
        case round =>
          obtain ⟨j, f2, s2, hj, rfl, HJ⟩ := hrel
          go_upto_region 17 with fail
          go_cut [81] from 74 to 107 (fun v wx => v = .bool (decide (j < len2 ∧ j < 20)) ∧ wx = wr)
          case first =>
            by_cases hl : j < len2
            · have d1' : decide ((j : Int) < (len2 : Int)) = true := by simpa using hl
              go_wp2_with fail
              all_goals (go_meet; case rel => exact ⟨congrArg Value.bool (by by_cases h20 : j < 20 <;> simp [h20, hl] <;> omega), rfl⟩)
            · have d1' : decide ((j : Int) < (len2 : Int)) = false := by simpa using hl
              go_wp2_with fail
              all_goals (go_meet; case rel => exact ⟨congrArg Value.bool (by by_cases h20 : j < 20 <;> simp [h20, hl] <;> omega), rfl⟩)
          case rest =>
            obtain ⟨rfl, rfl⟩ := hcut
            by_cases hb : j < len2 ∧ j < 20
            · have d1 : decide (j < len2 ∧ j < 20) = true := decide_eq_true hb
              rw [d1]
              obtain ⟨b, o, z, ea, hz⟩ := HAt2.out j hb.1
              have hc : wc.cell? ⟨b, o + j, none⟩ = some (.int .i64 z) := below_adds HJ.out.1.e.adds hz
              obtain ⟨c, hcd⟩ : ∃ c, c = six z := ⟨_, rfl⟩
              have hc6 : c < 6 := by rw [hcd]; exact six_lt z
              have hcz : wrap64 ((IntKind.u64.wrap z).tmod 6) = (c : Int) := by rw [hcd]; exact six_wrap z
              have hl1 : j < len2 := hb.1
              have hl20 : j < 20 := hb.2
              subst ea
              clear hz hcd hb d1
              have hbw : IntKind.u8.wrap ((j : Int) + 100) = ((byt (j + 100)).toNat : Int) := by
                have q := byt_wrap (i := j + 100) (by omega)
                rw [← q]; rfl
              go_upto_region 22 with (first
                | (go_at_call 20; refine (HPl.out _ c hc6 (byt (j + 100)) _ (by rw [← hbw])).mono ?_; rintro e w9 ⟨pa, pk, rfl, Hp⟩)
                | (go_at_call 9; refine (HPu.out _ _ _ (i + j) k1 s2 f2 false c hc6 (byt (j + 100)) (by omega) (HJ.out.1.add Hp.out.2.2.2.2) HJ.out.2.1 pa pk Hp.out.2.1 Hp.out.2.2.1 Hp.out.2.2.2.1).mono ?_; rintro e w10 ⟨rfl, H10⟩))
              go_wp2_with (first
                | (go_at_call 20; refine (HPl.out _ c hc6 (byt (j + 100)) _ (by rw [← hbw])).mono ?_; rintro e w11 ⟨pa2, pk2, rfl, Hp2⟩; have hcv := HCv.out _ pa2 pk2 _ Hp2.out.2.1 Hp2.out.2.2.2.1; have H11 := hid (H10.out.1.add Hp2.out.2.2.2.2); have hcell := cellOf (H11.out.at (gF + 1, AObj f2) List.mem_cons_self) c; have hgt := arr_get f2 hc6; have hfr := frozen_of_row w11 (gF + 1) c _ 49 (H11.out.at (gF + 1, AObj f2) List.mem_cons_self)))
              go_roundw
              case rel =>
                refine ⟨j + 1, say f2 c (byt (j + 100)), _, by omega, by go_num, lx_say H11.out (fun x hx => by simp at hx; rw [hx]; simp) (by have := HLow.out; omega) hc6 (byt (j + 100)), H10.out.2, fun no h => HJ.out.2.2 no ?_⟩
                unfold say at h
                by_cases e : no = c
                · rw [if_pos e] at h; cases h
                · rw [if_neg e] at h; exact h
              case measure => simp [intOf]; omega
            · have d1 : decide (j < len2 ∧ j < 20) = false := decide_eq_false hb
              rw [d1]
              clear hb d1
              have HPa2 := hid HJ.out.2.1.acc
              go_upto_region 28 with (first
                | (go_at_call 12; refine (HAc.out _ _ _ _ _ _ HJ.out.1).mono ?_; rintro e w9 ⟨zb, rfl, H9⟩)
                | (go_at_call 7; refine (HOp.out _ _ _ _ _ _ H9.out HD1.out.2.1).mono ?_; rintro e w10 ⟨q, rfl, H10⟩))
              have HG1 := hid (fun (w' : World) (no n1 n2 : Nat) (t1 t2 : F.Po) (hno : no < 6) (hn : n1 ≤ 1000) (h : L2E w w' [(gF + 1, AObj f2), (gF, AObj f)] p q dp t1 t2 D1 n1 n2 k1) (ha : Pa t1 f2 false) (l : Nat) (hl : (tx no (f2 no)).length = l) => show Calls Tryd.prog 8 #[.pointer (some ⟨p, 0, none⟩), .int .i64 (no : Int)] w' (fun e w'' => ∃ a c z, e = .returned (.tuple #[.slice a l c, .int .i64 z]) ∧ Hid ((z = 0 ↔ f2 no ≠ none) ∧ ∃ t1', L2K w w'' [(gF + 1, AObj f2), (gF, AObj f)] p q dp t1' t2 D1 (n1 + 1) n2 k1 w'.heap.size (.slice a l c) (tx no (f2 no)) ∧ Pa t1' f2 false)) by
                obtain ⟨O1, O2, OD, h'⟩ := h
                have e := ha.get h'.g1 HD1.out.1 HJ.out.2.2 hno
                have hk := HD1.out.2.2
                refine (l2k_first ⟨O1, O2, OD, h'⟩ (by omega) (by omega) (no : Int)).mono ?_
                rintro e' w'' ⟨a, c, rfl, H⟩
                rw [e.2.1, hl] at H
                exact ⟨a, c, _, by rw [e.2.1, hl], by rw [← e.1]; omega, _, H.out, e.2.2⟩)
              have HG2 := hid (fun (w' : World) (no n1 n2 B m c0 : Nat) (a0 : Option Addr) (bs : List UInt8) (t1 t2 : F.Po) (hno : no < 6) (hn : n2 ≤ 1000) (h : L2K w w' [(gF + 1, AObj f2), (gF, AObj f)] p q dp t1 t2 D1 n1 n2 k1 B (.slice a0 m c0) bs) (hm : bs.length = m) (ha : Qk t2 no) (l : Nat) (hl : (tx no (f no)).length = l) => show Calls Tryd.prog 8 #[.pointer (some ⟨q, 0, none⟩), .int .i64 (no : Int)] w' (fun e w'' => ∃ a c z, e = .returned (.tuple #[.slice a l c, .int .i64 z]) ∧ Hid ((z = 0 ↔ f no ≠ none) ∧ At w'' a0 bs ∧ At w'' a (tx no (f no)) ∧ ∃ t2', L2E w w'' [(gF + 1, AObj f2), (gF, AObj f)] p q dp t1 t2' D1 n1 (n2 + 1) k1 ∧ Qk t2' (no + 1))) by
                have e := ha.get HD1.out.1 hno
                have hk := HD1.out.2.2
                refine (l2k_then h hm (by omega) (by omega) (no : Int)).mono ?_
                rintro e' w'' ⟨a, c, rfl, H⟩
                have H2 := H.out
                rw [e.2.1] at H2
                exact ⟨a, c, _, by rw [e.2.1, hl], by rw [← e.1]; omega, H2.2.1, H2.2.2, _, H2.1, e.2.2⟩)
              go_loopw [121] (fun t wr => ∃ (no n1 n2 : Nat) (t1 t2 : F.Po), no ≤ 6 ∧ t = .int .i64 (no : Int) ∧ n1 ≤ 50 + no ∧ n2 ≤ no ∧ Hid (L2E w wr [(gF + 1, AObj f2), (gF, AObj f)] p q dp t1 t2 D1 n1 n2 k1 ∧ Pa t1 f2 false ∧ Qk t2 no)) (fun t _ => 6 - (intOf t).toNat)
              case atStart => exact ⟨0, i + j, 0, _, _, by omega, rfl, by omega, by omega, H10.out, HPa2.out, ⟨rfl, rfl, rfl, fun g hg => by cases hg⟩⟩
              case round =>
                obtain ⟨no, n1, n2, t1, t2, hno, rfl, hn1, hn2, HN⟩ := hrel
                by_cases hlt : no < 6
                · have hltz : (no : Int) < 6 := by omega
                  obtain ⟨l1, hl1⟩ : ∃ l1, (tx no (f2 no)).length = l1 := ⟨_, rfl⟩
                  obtain ⟨l2, hl2⟩ : ∃ l2, (tx no (f no)).length = l2 := ⟨_, rfl⟩
                  have HE1 := hid hl1
                  have HE2 := hid hl2
                  clear hl1 hl2
                  go_upto_region 32 with (first
                    | (go_at_call 8; have H12c := H12b; refine (HG2.out _ no (n1 + 1) n2 _ l1 gc ga _ t1' t2 hlt (by omega) H12b.out.1 HE1.out HN.out.2.2 l2 HE2.out).mono ?_; rintro e w13 ⟨ha, hc, hz, rfl, H13⟩)
                    | (go_at_call 8; refine (HG1.out _ no n1 n2 t1 t2 hlt (by omega) HN.out.1 HN.out.2.1 l1 HE1.out).mono ?_; rintro e w12 ⟨ga, gc, gz, rfl, H12⟩; obtain ⟨t1', H12b⟩ : ∃ t1', Hid (L2K w w12 [(gF + 1, AObj f2), (gF, AObj f)] p q dp t1' t2 D1 (n1 + 1) n2 k1 _ (.slice ga l1 gc) (tx no (f2 no)) ∧ Pa t1' f2 false) := H12.out.2))
                  obtain ⟨t2', H14⟩ : ∃ t2', Hid (L2E w w13 [(gF + 1, AObj f2), (gF, AObj f)] p q dp t1' t2' D1 (n1 + 1) (n2 + 1) k1 ∧ Qk t2' (no + 1)) := H13.out.2.2.2
                  have hv1 : ∀ n, (convert 22 9 (.slice ga l1 gc)).run Tryd.prog (w13.drewN n) = .ok (sv (tx no (f2 no))) (w13.drewN n) := fun n => by
                    have q := conv_at (w13.drewN n) ga _ gc (H13.out.2.1.adds (adds_drewN w13 n))
                    rw [HE1.out] at q
                    exact q
                  have hv2 : ∀ n, (convert 22 9 (.slice ha l2 hc)).run Tryd.prog (w13.drewN n) = .ok (sv (tx no (f no))) (w13.drewN n) := fun n => by
                    have q := conv_at (w13.drewN n) ha _ hc (H13.out.2.2.1.adds (adds_drewN w13 n))
                    rw [HE2.out] at q
                    exact q
                  have hc1 : w13.cell? ⟨gF + 1, no, none⟩ = some (sv (tx no (f2 no))) := by rw [cellOf (H14.out.1.at (gF + 1, AObj f2) List.mem_cons_self) no]; exact arr_get f2 hlt
                  have hc2 : w13.cell? ⟨gF, no, none⟩ = some (sv (tx no (f no))) := by rw [cellOf (H14.out.1.at (gF, AObj f) (List.mem_cons_of_mem _ List.mem_cons_self)) no]; exact arr_get f hlt
                  have hx1 := tx_no hlt _ H12.out.1
                  have hx2 := tx_no hlt _ H13.out.1
                  clear HE1 HE2
                  unfold sv at *
                  generalize (⟨(tx no (f2 no)).toArray⟩ : ByteArray) = S1 at hv1 hc1 hx1
                  generalize (⟨(tx no (f no)).toArray⟩ : ByteArray) = S2 at hv2 hc2 hx2
                  have y3 : (S1.toList == S1.toList) = true := by simp
                  have y4 : (S2.toList == S2.toList) = true := by simp
                  rcases hx1 with ⟨y1, y1'⟩ | ⟨y1, y1'⟩ <;> rcases hx2 with ⟨y2, y2'⟩ | ⟨y2, y2'⟩
                  all_goals
                    go_quiet (fail)
                    go_wp2
                    go_roundw
                    case rel =>
                      (repeat apply Exists.intro)
                      refine ⟨?_, rfl⟩
                      exact ⟨no + 1, n1 + 1, n2 + 1, t1', t2', by omega, by go_num, by omega, by omega, H14.out.1.add (adds_drewN _ _), H12b.out.2, H14.out.2⟩
                    case measure => simp [intOf]; omega
                · obtain rfl : no = 6 := by omega
                  have hltz : ¬ (6 : Int) < 6 := by omega
                  go_wp2_with fail
                  go_ret
                  exact ⟨rfl, HN.out.1.adds⟩
end Go.Proofs.YtjbdchgadfhffaaDoor
