/- Behind Drop each page is told as it was. -/
import Derived.Test.YtjbdchgadfhffaaDoorQ39
import Derived.Test.YtjbdchgadfhffaaDoorQ40
import Derived.Deep.RegionWith
import Derived.Deep.QuietTactic
import Derived.Deep.CutBlock
import Derived.Deep.DeepCutAuto
import Derived.BigQuiet
namespace Go.Proofs.YtjbdchgadfhffaaDoor
open Go.RowKit

set_option maxRecDepth 100000 in
theorem zeroAct11 (w : World) : (zeroValue 54).run Tryd.prog w = .ok (.agg #[.int .i64 0, .int .i64 0, .int .i64 0, .int .i64 0, .slice none 0 0, .int .u8 0, .slice none 0 0, .int .i64 0, .int .i64 0]) w := by kernel_rfl
theorem one_act11C (k no off n : Int) (fa : Option Addr) (fn fc : Nat) (c : UInt8) (ka : Option Addr) (kn kc : Nat) (torn at_ : Int) : ∀ u ∈ act11C k no off n fa fn fc c ka kn kc torn at_, u.oneCell' = true := fun u hu => by
  simp only [act11C, List.mem_cons, List.not_mem_nil, or_false] at hu
  rcases hu with rfl | rfl | rfl | rfl | rfl | rfl | rfl | rfl | rfl <;> rfl
set_option maxRecDepth 100000 in
set_option maxHeartbeats 3000000 in
theorem drops11 (a : Option Addr) (len cap : Nat) (w : World) (hT : Tab w) (hI : Acts11 w a len) : Calls Tryd.prog 4 #[.slice a len cap] w (Adding (.bool true) w) := by
  have HO := hid (show Calls Tryd.prog 18 #[.int .i64 8] w (POpd w 8) from opened_any 8 (by decide) w hT)
  have HW := hid (fun w' (hA : Adds w w') => works11 w' (hT.adds hA))
  have HPl := hid (fun (w' : World) (no : Nat) (hn : no < 6) (c : UInt8) => show Calls Tryd.prog 20 #[.int .i64 (no : Int), .int .u8 (c.toNat : Int)] w' (PPl w' (pl no c)) from plain_any no c w' (by omega))
  have HIa := hid hI
  have hzv := zeroArr
  have hlen := hI.1
  clear hT hI
  go_enter Tryd.func4, Tryd.ntmps4
  go_upto_region 4 with (first
    | (go_at_call 18; refine HO.out.mono ?_; rintro e w1 ⟨p, dp, rfl, HL⟩)
    | (go_at_call 17; refine (HW.out w1 HL.out.adds).mono ?_; rintro e w2 ⟨rfl, hA2⟩; have HL2 := hid (HL.out.add hA2); clear hA2))
  unfold Ptr at *
  have HCv := hid (fun (w' : World) (a : Option Addr) (k : Nat) (bs : List UInt8) (h : At w' a bs) (hl : bs.length = 256) => show (convert 22 9 (.slice a 256 k)).run Tryd.prog w' = .ok (sv bs) w' by
    have q := conv_at w' a bs k h
    rw [hl] at q
    exact q)
  have HPu := hid (fun (w' w1 : World) (X : List (Nat × Obj)) (D : dSt) (n k : Nat) (s : F.Po) (nw ws : Nat → Option UInt8) (no : Nat) (hn : no < 6) (c : UInt8) (hnn : n ≤ 1000) (h : LpX w w' X p dp s D n k) (hA : Adds w' w1) (hp : Pv s D nw ws) (pa : Option Addr) (pk : Nat) (h1 : w1.ownsRow w'.heap.size 5 1 (.slice pa 256 pk) 256 (S (pl no c))) (h2 : 256 ≤ pk) (h3 : (pl no c).length = 256) => show Calls Tryd.prog 9 #[.pointer (some ⟨p, 0, none⟩), .int .i64 (no : Int), .slice pa 256 pk] w1 (fun e w'' => e = .returned (.int .i64 0) ∧ Hid (LpX w w'' X p dp (F.putS s (no : Int) (pl no c)) D (n + 1) k ∧ Pv (F.putS s (no : Int) (pl no c)) D (say nw no c) ws ∧ At w'' pa (pl no c))) by
    have e := hp.put h.e.good hn c
    refine (lx_putk h hA (by omega) (no : Int) pa pk (pl no c) h1 h3 h2).mono ?_
    rintro e' w'' ⟨rfl, H⟩
    exact ⟨by rw [e.1]; rfl, H.out.1, e.2, H.out.2⟩)
  have HAc := hid (fun (w' : World) (X : List (Nat × Obj)) (D : dSt) (n k : Nat) (s : F.Po) (h : LpX w w' X p dp s D n k) => show Calls Tryd.prog 12 #[.pointer (some ⟨p, 0, none⟩)] w' _ from lx_accept h)
  have HDr := hid (fun (w' : World) (X : List (Nat × Obj)) (D : dSt) (n k : Nat) (s : F.Po) (h : LpX w w' X p dp s D n k) => show Calls Tryd.prog 13 #[.pointer (some ⟨p, 0, none⟩)] w' _ from lx_drop h)
  have HFl := hid (fun (w' : World) (X : List (Nat × Obj)) (D : dSt) (n k : Nat) (s : F.Po) (nw ws : Nat → Option UInt8) (h : LpX w w' X p dp s D n k) (ha : Pv s D nw ws) (hk : k ≤ 300) => show Calls Tryd.prog 10 #[.pointer (some ⟨p, 0, none⟩)] w' (fun e w'' => ∃ z : Int, e = .returned (.int .i64 z) ∧ ∃ D1 s1 k1 m, Hid (LpX w w'' X p dp s1 D1 n k1 ∧ k1 ≤ k + 10 ∧ Pv s1 D1 nw ws ∧ (F.which s1 F.isFresh).length = m) ∧ (z == 0) = ((m : Int) == 0)) by
    have hd := pv_few ha.six h.e.good F.isDirty
    refine (lx_flush h (by omega)).mono ?_
    rintro e' w'' ⟨rfl, H⟩
    by_cases hfr : F.which s F.isFresh = []
    · have e := ha.flush h.e.good hfr
      exact ⟨_, rfl, _, _, _, _, ⟨H.out, by omega, e.2.1, rfl⟩, by rw [e.1, e.2.2]; rfl⟩
    · have e := fl_fresh (D := D) hfr
      rw [e.1, e.2] at H
      refine ⟨_, rfl, _, _, _, _, ⟨H.out, by omega, ha, rfl⟩, ?_⟩
      have hm : 0 < (F.which s F.isFresh).length := List.length_pos_iff.2 hfr
      have h1 : (((F.which s F.isFresh).length : Int) == 0) = false := by simp; omega
      rw [h1, e.1]
      rfl)
  have HFr := hid (fun (w' : World) (X : List (Nat × Obj)) (D : dSt) (n k m : Nat) (s : F.Po) (h : LpX w w' X p dp s D n k) (h0 : (F.which s F.isFresh).length = m) => show Calls Tryd.prog 14 #[.pointer (some ⟨p, 0, none⟩)] w' (fun e w'' => ∃ ad kd, e = .returned (.slice ad m kd) ∧ Hid (Adds w' w'')) by
    refine (lp_fresh h.e).mono ?_
    rintro e w'' ⟨v, rfl, H⟩
    obtain ⟨ah, kh, rfl, hna⟩ := row_nat H.out.1
    exact ⟨ah, kh, by rw [h0], H.out.2⟩)
  have HSt := hid (fun (w' : World) (X : List (Nat × Obj)) (D : dSt) (n k : Nat) (s : F.Po) (h : LpX w w' X p dp s D n k) (z : Int) (hz : z = D.steps) => show Calls Tryd.prog 19 #[.pointer (some ⟨dp, 0, none⟩)] w' (Tells (.int .i64 z) w') by rw [hz]; exact lp_steps h.e)
  have HGt := hid (fun (w' : World) (X : List (Nat × Obj)) (D : dSt) (n k : Nat) (s : F.Po) (nw ws : Nat → Option UInt8) (no : Nat) (hn : no < 6) (hnn : n ≤ 1000) (hk : k ≤ 400) (h : LpX w w' X p dp s D n k) (hp : Pv s D nw ws) (l : Nat) (hl : (tx no (nw no)).length = l) => show Calls Tryd.prog 8 #[.pointer (some ⟨p, 0, none⟩), .int .i64 (no : Int)] w' (fun e w'' => ∃ a c z, e = .returned (.tuple #[.slice a l c, .int .i64 z]) ∧ Hid ((z = 0 ↔ nw no ≠ none) ∧ At w'' a (tx no (nw no)) ∧ LpX w w'' X p dp (F.getS s D (no : Int)) D (n + 1) k ∧ Pv (F.getS s D (no : Int)) D nw ws)) by
    have e := hp.get h.e.good hn
    refine (lx_get h (by omega) (by omega) (no : Int)).mono ?_
    rintro e' w'' ⟨v, rfl, H⟩
    have H2 := H.out
    rw [e.2.1] at H2
    obtain ⟨a, c, ev, _⟩ := own_cq H2.1
    have hA := H2.1
    rw [ev] at hA
    exact ⟨a, c, _, by rw [ev, hl], by rw [← e.1]; omega, row_at hA, H2.2, e.2.2⟩)
  go_upto_region 5 with fail
  obtain ⟨w3, hw3⟩ : ∃ w3 : World, w3 = (w2.alloc (.cells (arr f0) 49)).alloc (.cells (arr f0) 49) := ⟨_, rfl⟩
  have hz2 := HL2.out.adds.size
  have HX3 : Hid (LpX w w3 [(w2.heap.size, AObj f0), (w2.heap.size + 1, AObj f0)] p dp ⟨0, 6, 8, []⟩ (dSt.new 6) 0 0) := by
    have q1 := HL2.out.x.more ((Touch.refl _ w2).alloc (.cells (arr f0) 49)) w2.heap.size _ (heap_alloc_new w2 _) (Nat.le_refl _)
    have q2 := q1.more ((Touch.refl _ _).alloc (.cells (arr f0) 49)) (w2.heap.size + 1) _ (by rw [← show (w2.alloc (.cells (arr f0) 49)).heap.size = w2.heap.size + 1 by simp]; exact heap_alloc_new _ _) (by simp)
    rw [hw3]
    exact q2.fewer (fun x hx => by simp only [List.mem_cons, List.not_mem_nil, or_false] at hx ⊢; rcases hx with rfl | rfl; exact .inr rfl; exact .inl rfl)
  have HLow := hid hz2
  rw [← hw3]
  generalize hgF : w2.heap.size = gF at *
  clear hw3 hgF hz2
  have hzv2 := zeroAct11
  go_wp2_with fail
  go_loopw [7, 8] (fun t7 t wr => ∃ (i n k : Nat) (nw ws : Nat → Option UInt8) (s : F.Po) (D : dSt) (st : Int), i ≤ 30 ∧ t = .int .i64 (i : Int) ∧ t7 = .int .i64 st ∧ n ≤ 7 * i ∧ k ≤ 10 * i ∧ Hid (st = D.steps) ∧ Hid (LpX w wr [(gF, AObj ws), (gF + 1, AObj nw)] p dp s D n k ∧ Pv s D nw ws)) (fun _ t _ => 30 - (intOf t).toNat)
  case atStart => exact ⟨0, 0, 0, f0, f0, _, _, _, by omega, rfl, rfl, by omega, by omega, hid rfl, HX3.out, pv0⟩
  case round =>
    obtain ⟨i, n, k, nw, ws, s, D, st, hi, rfl, rfl, hn, hk, HSD, HI⟩ := hrel
    go_upto_region 7 with fail
    go_cut [32] from 25 to 109 (fun v wx => v = .bool (decide (i < len ∧ i < 30)) ∧ wx = wr)
    case first =>
      by_cases hl : i < len
      · have d1' : decide ((i : Int) < (len : Int)) = true := by simpa using hl
        go_wp2_with fail
        all_goals (go_meet; case rel => exact ⟨congrArg Value.bool (by by_cases h30 : i < 30 <;> simp [h30, hl] <;> omega), rfl⟩)
      · have d1' : decide ((i : Int) < (len : Int)) = false := by simpa using hl
        go_wp2_with fail
        all_goals (go_meet; case rel => exact ⟨congrArg Value.bool (by by_cases h30 : i < 30 <;> simp [h30, hl] <;> omega), rfl⟩)
    case rest =>
      obtain ⟨rfl, rfl⟩ := hcut
      by_cases hb : i < len ∧ i < 30
      · have d1 : decide (i < len ∧ i < 30) = true := decide_eq_true hb
        rw [d1]
        obtain ⟨b, o, k0, no, off, n0, fa, fc, bs, c, ja, jc, js, jt, ja2, ea, hra, _⟩ := HIa.out.2 i hb.1
        have hrr : Hid (wc.rangeAt b (o + i * 9) (act11C k0 no off n0 fa (List.length bs) fc c ja (List.length js) jc jt ja2)) := fun j v hv => below_adds HI.out.1.e.adds (hra j v hv)
        obtain ⟨fl, hfl⟩ : ∃ fl, List.length bs = fl := ⟨_, rfl⟩
        obtain ⟨jl, hjl⟩ : ∃ jl, List.length js = jl := ⟨_, rfl⟩
        rw [hfl, hjl] at hrr
        clear hfl hjl
        have hi53 : Hid ((Tryd.prog.info? 54).map (·.size) = some (act11C k0 no off n0 fa fl fc c ja jl jc jt ja2).length) := infoAct11
        have hset : (storeCells ⟨wc.heap.size, 0, none⟩ (act11C k0 no off n0 fa fl fc c ja jl jc jt ja2) 0).run Tryd.prog (wc.alloc (.cells #[Value.int .i64 0, .int .i64 0, .int .i64 0, .int .i64 0, .slice none 0 0, .int .u8 0, .slice none 0 0, .int .i64 0, .int .i64 0] 54)) = .ok () (wc.alloc (.cells (act11C k0 no off n0 fa fl fc c ja jl jc jt ja2).toArray 54)) := run_storeCells_new wc 54 _ (act11C k0 no off n0 fa fl fc c ja jl jc jt ja2).toArray infoAct11 rfl (all_oneCell_toArray (one_act11C k0 no off n0 fa fl fc c ja jl jc jt ja2))
        have hl1 : i < len := hb.1
        have hl30 : i < 30 := hb.2
        subst ea
        clear hra hb d1
        go_upto_region 9 with fail
        go_cut [9] from 25 to 109 (fun t9 w' => t9 = .pointer (some ⟨wc.heap.size, 0, none⟩) ∧ w' = wc.alloc (.cells (act11C k0 no off n0 fa fl fc c ja jl jc jt ja2).toArray 54))
        case first =>
          go_wp2_with (refine wpList_load_mid rfl 54 _ rfl b (o + i * 9) rfl (act11C k0 no off n0 fa fl fc c ja jl jc jt ja2) _ hrr.out Tryd.underlying54 rfl hi53.out ?_)
          go_meet
          case rel => exact ⟨rfl, rfl⟩
        case rest =>
          rename World => w5
          obtain ⟨hu9, hw5⟩ := hcut
          subst hu9
          obtain ⟨ab, hab⟩ : ∃ ab, ab = wc.heap.size := ⟨_, rfl⟩
          have HX5 := hid (show LpX w w5 [(ab, .cells (act11C k0 no off n0 fa fl fc c ja jl jc jt ja2).toArray 54 (0, 0)), (gF, AObj ws), (gF + 1, AObj nw)] p dp s D n k by
            rw [hab, hw5]
            exact HI.out.1.more ((Touch.refl _ wc).alloc _) wc.heap.size _ (heap_alloc_new wc _) (Nat.le_refl _))
          rw [← hab]
          have hh5 := HX5.out.at _ List.mem_cons_self
          have c0 : w5.cell? ⟨ab, 0, none⟩ = some (.int .i64 k0) := cellOf hh5 0
          have c1 : w5.cell? ⟨ab, 1, none⟩ = some (.int .i64 no) := cellOf hh5 1
          obtain ⟨m, hmd⟩ : ∃ m, m = six no := ⟨_, rfl⟩
          have hm6 : m < 6 := by rw [hmd]; exact six_lt no
          have hmz : wrap64 ((IntKind.u64.wrap no).tmod 6) = (m : Int) := by rw [hmd]; exact six_wrap no
          clear hh5 hw5 hab hset hrr hi53 hmd
          go_upto_block 2 with fail
          rw [hmz]
          clear hmz
          go_cut [7, 11] from 25 to 109 (fun t7 _ wx => ∃ (n' k' : Nat) (nw' ws' : Nat → Option UInt8) (s' : F.Po) (D' : dSt) (st' : Int), t7 = .int .i64 st' ∧ n' ≤ 7 * i + 1 ∧ k' ≤ 10 * i + 10 ∧ Hid (st' = D'.steps) ∧ Hid (LpX w wx [(gF, AObj ws'), (gF + 1, AObj nw')] p dp s' D' n' k' ∧ Pv s' D' nw' ws'))
          case first =>
            by_cases e2 : k0 = 2
            · subst e2
              as_aux_lemma =>
              go_upto_region 18 with (first | (go_at_call 12; refine (HAc.out _ _ _ _ _ _ HX5.out).mono ?_; rintro e w6 ⟨za, rfl, H6⟩))
              have b7 := H6.out.at (gF + 1, AObj nw) (List.mem_cons_of_mem _ (List.mem_cons_of_mem _ List.mem_cons_self))
              have b8 := H6.out.at (gF, AObj ws) (List.mem_cons_of_mem _ List.mem_cons_self)
              have c0x : w6.cell? ⟨gF + 1, 0, none⟩ = some (sv (tx 0 (nw 0))) := cellOf b7 0
              have e0x : w6.cell? ⟨gF, 0, none⟩ = some (sv (tx 0 (ws 0))) := cellOf b8 0
              have r0x := frozen_of_row w6 (gF) 0 _ 49 b8
              have c1x : w6.cell? ⟨gF + 1, 1, none⟩ = some (sv (tx 1 (nw 1))) := cellOf b7 1
              have e1x : w6.cell? ⟨gF, 1, none⟩ = some (sv (tx 1 (ws 1))) := cellOf b8 1
              have r1x := frozen_of_row w6 (gF) 1 _ 49 b8
              have c2x : w6.cell? ⟨gF + 1, 2, none⟩ = some (sv (tx 2 (nw 2))) := cellOf b7 2
              have e2x : w6.cell? ⟨gF, 2, none⟩ = some (sv (tx 2 (ws 2))) := cellOf b8 2
              have r2x := frozen_of_row w6 (gF) 2 _ 49 b8
              have c3x : w6.cell? ⟨gF + 1, 3, none⟩ = some (sv (tx 3 (nw 3))) := cellOf b7 3
              have e3x : w6.cell? ⟨gF, 3, none⟩ = some (sv (tx 3 (ws 3))) := cellOf b8 3
              have r3x := frozen_of_row w6 (gF) 3 _ 49 b8
              have c4x : w6.cell? ⟨gF + 1, 4, none⟩ = some (sv (tx 4 (nw 4))) := cellOf b7 4
              have e4x : w6.cell? ⟨gF, 4, none⟩ = some (sv (tx 4 (ws 4))) := cellOf b8 4
              have r4x := frozen_of_row w6 (gF) 4 _ 49 b8
              have c5x : w6.cell? ⟨gF + 1, 5, none⟩ = some (sv (tx 5 (nw 5))) := cellOf b7 5
              have e5x : w6.cell? ⟨gF, 5, none⟩ = some (sv (tx 5 (ws 5))) := cellOf b8 5
              have r5x := frozen_of_row w6 (gF) 5 _ 49 b8
              go_wp2_with fail
              go_meet
              case rel => exact ⟨n, k, nw, nw, _, D, st, rfl, by omega, by omega, HSD.out, lx_all (H6.out.fewer (fun x hx => by simp only [List.mem_cons, List.not_mem_nil, or_false] at hx ⊢; rcases hx with rfl | rfl; exact .inr (.inr rfl); exact .inr (.inl rfl))) (by omega) HLow.out, HI.out.2.acc⟩
            by_cases e3 : k0 = 3
            · subst e3
              as_aux_lemma =>
              go_upto_region 21 with (first | (go_at_call 13; refine (HDr.out _ _ _ _ _ _ HX5.out).mono ?_; rintro e w6 ⟨za, rfl, H6⟩))
              have b7 := H6.out.at (gF, AObj ws) (List.mem_cons_of_mem _ List.mem_cons_self)
              have b8 := H6.out.at (gF + 1, AObj nw) (List.mem_cons_of_mem _ (List.mem_cons_of_mem _ List.mem_cons_self))
              have c0x : w6.cell? ⟨gF, 0, none⟩ = some (sv (tx 0 (ws 0))) := cellOf b7 0
              have e0x : w6.cell? ⟨gF + 1, 0, none⟩ = some (sv (tx 0 (nw 0))) := cellOf b8 0
              have r0x := frozen_of_row w6 (gF + 1) 0 _ 49 b8
              have c1x : w6.cell? ⟨gF, 1, none⟩ = some (sv (tx 1 (ws 1))) := cellOf b7 1
              have e1x : w6.cell? ⟨gF + 1, 1, none⟩ = some (sv (tx 1 (nw 1))) := cellOf b8 1
              have r1x := frozen_of_row w6 (gF + 1) 1 _ 49 b8
              have c2x : w6.cell? ⟨gF, 2, none⟩ = some (sv (tx 2 (ws 2))) := cellOf b7 2
              have e2x : w6.cell? ⟨gF + 1, 2, none⟩ = some (sv (tx 2 (nw 2))) := cellOf b8 2
              have r2x := frozen_of_row w6 (gF + 1) 2 _ 49 b8
              have c3x : w6.cell? ⟨gF, 3, none⟩ = some (sv (tx 3 (ws 3))) := cellOf b7 3
              have e3x : w6.cell? ⟨gF + 1, 3, none⟩ = some (sv (tx 3 (nw 3))) := cellOf b8 3
              have r3x := frozen_of_row w6 (gF + 1) 3 _ 49 b8
              have c4x : w6.cell? ⟨gF, 4, none⟩ = some (sv (tx 4 (ws 4))) := cellOf b7 4
              have e4x : w6.cell? ⟨gF + 1, 4, none⟩ = some (sv (tx 4 (nw 4))) := cellOf b8 4
              have r4x := frozen_of_row w6 (gF + 1) 4 _ 49 b8
              have c5x : w6.cell? ⟨gF, 5, none⟩ = some (sv (tx 5 (ws 5))) := cellOf b7 5
              have e5x : w6.cell? ⟨gF + 1, 5, none⟩ = some (sv (tx 5 (nw 5))) := cellOf b8 5
              have r5x := frozen_of_row w6 (gF + 1) 5 _ 49 b8
              go_wp2_with fail
              go_meet
              case rel =>
                have q := lx_all (H6.out.fewer (Y := [(gF, AObj ws), (gF + 1, AObj nw)]) (fun x hx => List.mem_cons_of_mem _ hx)) (by omega) (by have := HLow.out; omega)
                exact ⟨n, k, ws, ws, _, D, st, rfl, by omega, by omega, HSD.out, q.fewer (fun x hx => by simp only [List.mem_cons, List.not_mem_nil, or_false] at hx ⊢; rcases hx with rfl | rfl; exact .inr rfl; exact .inl rfl), HI.out.2.drop HX5.out.e.good⟩
            by_cases e4 : k0 = 4
            · subst e4
              as_aux_lemma =>
              go_upto_region 25 with (first
                | (go_at_call 10; refine (HFl.out _ _ _ _ _ _ nw ws HX5.out HI.out.2 (by omega)).mono ?_; rintro e w6 ⟨z6, rfl, D6, s6, k6, m6, H6, hq6⟩; have hne : ((z6 == 0) != ((m6 : Int) == 0)) = false := by rw [hq6]; simp)
                | (go_at_call 14; refine (HFr.out _ _ _ _ _ m6 _ H6.out.1 H6.out.2.2.2).mono ?_; rintro e w7 ⟨ad, kd, rfl, H7⟩))
              obtain ⟨st6, hst6⟩ : ∃ st6, st6 = D6.steps := ⟨_, rfl⟩
              have HX7 := hid (H6.out.1.add H7.out)
              have HS7 := hid (HSt.out w7 _ _ _ _ _ HX7.out st6 hst6)
              have HST := hid hst6
              clear hst6
              go_wp2_with (go_at_call 19; refine HS7.out.mono ?_; rintro e _ ⟨rfl, hw⟩; rw [hw]; clear hw)
              go_meet
              case rel => exact ⟨n, k6, nw, ws, s6, D6, st6, rfl, by omega, by have := H6.out.2.1; omega, HST.out, HX7.out.fewer (fun x hx => List.mem_cons_of_mem _ hx), H6.out.2.2.1⟩
            have x2 : (k0 == 2) = false := by simpa using e2
            have x3 : (k0 == 3) = false := by simpa using e3
            have x4 : (k0 == 4) = false := by simpa using e4
            as_aux_lemma =>
            have c5 : w5.cell? ⟨ab, 5, none⟩ = some (.int .u8 (c.toNat : Int)) := cellOf (HX5.out.at _ List.mem_cons_self) 5
            go_upto_region 15 with (first
              | (go_at_call 20; refine (HPl.out _ m hm6 c).mono ?_; rintro e w6 ⟨pa, pk, rfl, Hp⟩)
              | (go_at_call 9; refine (HPu.out _ _ _ _ n k s nw ws m hm6 c (by omega) HX5.out Hp.out.2.2.2.2 HI.out.2 pa pk Hp.out.1 Hp.out.2.2.1 Hp.out.2.2.2.1).mono ?_; rintro e w7 ⟨rfl, H7⟩))
            have hcv := HCv.out _ pa pk _ H7.out.2.2 Hp.out.2.2.2.1
            have H8 := hid (show LpX w w7 [(gF + 1, AObj nw), (gF, AObj ws)] p dp (F.putS s (m : Int) (pl m c)) D (n + 1) k from H7.out.1.fewer (fun x hx => by simp only [List.mem_cons, List.not_mem_nil, or_false] at hx ⊢; rcases hx with rfl | rfl; exact .inr (.inr rfl); exact .inr (.inl rfl)))
            have hcell := cellOf (H8.out.at (gF + 1, AObj nw) List.mem_cons_self) m
            have hgt := arr_get nw hm6
            have hfr := frozen_of_row w7 (gF + 1) m _ 49 (H8.out.at (gF + 1, AObj nw) List.mem_cons_self)
            go_wp2_with fail
            go_meet
            case rel =>
              have q := lx_say H8.out (fun x hx => by simp at hx; rw [hx]; simp) (by have := HLow.out; omega) hm6 c
              exact ⟨n + 1, k, say nw m c, ws, _, D, st, rfl, by omega, by omega, HSD.out, q.fewer (fun x hx => by simp only [List.mem_cons, List.not_mem_nil, or_false] at hx ⊢; rcases hx with rfl | rfl; exact .inr rfl; exact .inl rfl), H7.out.2.1⟩
          case rest =>
            rename World => w9
            obtain ⟨n9, k9, nw9, ws9, s9, D9, st9, rfl, hn9, hk9, HSD9, H9⟩ := hcut
            have hss : (st9 != st9) = false := by simp
            have HS9 := hid (HSt.out w9 _ _ _ _ _ H9.out.1 st9 HSD9.out)
            clear HX5 HI c0 c1
            go_wp2_with (go_at_call 19; refine HS9.out.mono ?_; rintro e _ ⟨rfl, hw⟩; rw [hw]; clear hw)
            go_loopw [85] (fun t wr => ∃ (j nj : Nat) (sj : F.Po), j ≤ 6 ∧ t = .int .i64 (j : Int) ∧ nj ≤ 7 * i + 1 + j ∧ Hid (LpX w wr [(gF, AObj ws9), (gF + 1, AObj nw9)] p dp sj D9 nj k9 ∧ Pv sj D9 nw9 ws9)) (fun t _ => 6 - (intOf t).toNat)
            case atStart => exact ⟨0, n9, s9, by omega, rfl, by omega, H9.out.1, H9.out.2⟩
            case round =>
              obtain ⟨j, nj, sj, hj, rfl, hnj, HJ⟩ := hrel
              by_cases hlt : j < 6
              · have hltz : (j : Int) < 6 := by omega
                obtain ⟨l1, hl1'⟩ : ∃ l1, (tx j (nw9 j)).length = l1 := ⟨_, rfl⟩
                have HE1 := hid hl1'
                clear hl1'
                go_upto_region 32 with (first
                  | (go_at_call 8; refine (HGt.out _ _ _ nj k9 sj nw9 ws9 j hlt (by omega) (by omega) HJ.out.1 HJ.out.2 l1 HE1.out).mono ?_; rintro e w12 ⟨ga, gc, gz, rfl, H12⟩))
                have hv1 : ∀ n, (convert 22 9 (.slice ga l1 gc)).run Tryd.prog (w12.drewN n) = .ok (sv (tx j (nw9 j))) (w12.drewN n) := fun n => by
                  have q := conv_at (w12.drewN n) ga _ gc (H12.out.2.1.adds (adds_drewN w12 n))
                  rw [HE1.out] at q
                  exact q
                have hc1 : w12.cell? ⟨gF + 1, j, none⟩ = some (sv (tx j (nw9 j))) := by rw [cellOf (H12.out.2.2.1.at (gF + 1, AObj nw9) (List.mem_cons_of_mem _ List.mem_cons_self)) j]; exact arr_get nw9 hlt
                have hx1 := tx_no hlt _ H12.out.1
                clear HE1
                unfold sv at *
                generalize (⟨(tx j (nw9 j)).toArray⟩ : ByteArray) = S1 at hv1 hc1 hx1
                have y3 : (S1.toList == S1.toList) = true := by simp
                rcases hx1 with ⟨y1, y1'⟩ | ⟨y1, y1'⟩
                all_goals
                  have y2 : (gz != 0) = !(gz == 0) := rfl
                  rw [y1] at y2
                  go_quiet (fail)
                  go_wp2
                  go_roundw
                  case rel =>
                    first
                      | exact ⟨j + 1, nj + 1, _, by omega, by go_num, by omega, H12.out.2.2.1.add (adds_drewN _ _), H12.out.2.2.2⟩
                      | ((repeat apply Exists.intro); refine ⟨?_, rfl⟩; exact ⟨j + 1, nj + 1, _, by omega, by go_num, by omega, H12.out.2.2.1.add (adds_drewN _ _), H12.out.2.2.2⟩)
                  case measure => simp [intOf]; omega
              · obtain rfl : j = 6 := by omega
                have hltz : ¬ (6 : Int) < 6 := by omega
                go_wp2_with fail
                go_roundw
                case rel =>
                  first
                    | exact ⟨i + 1, nj, k9, nw9, ws9, sj, D9, st9, by omega, by go_num, rfl, by omega, by omega, HSD9.out, HJ.out.1, HJ.out.2⟩
                    | ((repeat apply Exists.intro); refine ⟨?_, rfl⟩; exact ⟨i + 1, nj, k9, nw9, ws9, sj, D9, st9, by omega, by go_num, rfl, by omega, by omega, HSD9.out, HJ.out.1, HJ.out.2⟩)
                case measure => simp [intOf]; omega
      · have d1 : decide (i < len ∧ i < 30) = false := decide_eq_false hb
        rw [d1]
        clear hb d1
        go_wp2_with fail
        go_ret
        exact ⟨rfl, HI.out.1.e.adds⟩
end Go.Proofs.YtjbdchgadfhffaaDoor
