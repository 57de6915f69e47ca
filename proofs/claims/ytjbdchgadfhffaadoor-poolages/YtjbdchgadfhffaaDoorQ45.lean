/- The pages that are held are the youngest ones. -/
import Derived.Test.YtjbdchgadfhffaaDoorQ37
import Derived.Deep.CutBlock
import Derived.Deep.DeepCutAuto
namespace Go.Proofs.YtjbdchgadfhffaaDoor
open Go.RowKit

set_option maxRecDepth 100000 in
theorem run_sufI (a : Option Addr) (len cap n : Nat) (hn : n ≤ len) (w : World) : (Instr.sliceAt 42 (.slice a len cap) (some (.int .i64 (n : Int))) none none).run Tryd.prog w = .ok (.slice (sufAt a cap n) (len - n) (cap - n)) w := by
  have hsz : (sizeOf 3).run Tryd.prog w = .ok 1 w := by kernel_rfl
  rw [run_sliceAt_slice w 42 _ _ _ _ Tryd.underlying42, run_slice_l w 42 a len cap Tryd.underlying42 .i64 n (by omega) (by omega)]
  have he : Tryd.prog.elem 42 = 3 := by kernel_rfl
  rw [he, hsz]
  simp only [Result.andThen, sliced, Int.toNat_natCast, Nat.mul_one]
  rfl
/-- The state of the second pool. -/
def qS (m : Nat) (qs : List Int) : F.Po := ⟨0, 6, ((m + 1 : Nat) : Int), F.cl pB qs⟩
/-- The loop's state. -/
structure AW (w0 w : World) (q dp m i : Nat) (v : Value) (qs : List Int) : Prop where
  lp : ∃ X, LpX w0 w X q dp (qS m qs) pD i 7 ∧ AgX X v qs
  nd : qs.Nodup
  len : qs.length ≤ m + 1
  six : ∀ k ∈ qs, 0 ≤ k ∧ k < 6
set_option maxRecDepth 100000 in
theorem len_filter {qs : List Int} {z : Int} : (qs.filter (fun k => decide (k ≠ z)) ++ [z]).length = (qs.filter (fun k => decide (k ≠ z))).length + 1 := by rw [List.length_append, List.length_singleton]
set_option maxRecDepth 100000 in
theorem filter_next {qs : List Int} {c : Int} {j : Nat} (hj : j < qs.length) : (qs.take (j + 1)).filter (fun k => decide (k ≠ c)) = (qs.take j).filter (fun k => decide (k ≠ c)) ++ (if qs[j] ≠ c then [qs[j]] else []) := by
  rw [take_next' hj, List.filter_append, List.filter_cons, List.filter_nil]
  by_cases h : qs[j] = c <;> simp [h]
set_option maxRecDepth 100000 in
theorem take_has {l : List Int} {r : Nat} (hr : r < l.length) (k : Int) : (l.take (r + 1)).contains k = ((l.take r).contains k || (l[r] == k)) := by
  rw [take_next' hr]
  have key : ∀ (x : List Int) (y : Int), (x ++ [y]).contains k = (x.contains k || (y == k)) := by
    intro x y
    rw [Bool.eq_iff_iff]
    simp only [List.contains_iff_mem, List.mem_append, List.mem_singleton, Bool.or_eq_true, beq_iff_eq]
    exact ⟨fun h => h.imp id Eq.symm, fun h => h.imp id Eq.symm⟩
  exact key _ _
set_option maxRecDepth 100000 in
set_option maxHeartbeats 2000000 in
theorem ages11 (fm : Int) (a : Option Addr) (len cap : Nat) (w : World) (hT : Tab w) (hat : NumsAt w a len) : Calls Tryd.prog 6 #[.int .i64 fm, .slice a len cap] w (Adding (.bool true) w) := by
  have HO := hid (show Calls Tryd.prog 18 #[.int .i64 6] w (POpd w 6) from opened_any 6 (by decide) w hT)
  have HW := hid (fun w' (hA : Adds w w') => works11 w' (hT.adds hA))
  have HPl := hid (fun (w' : World) (i : Nat) (hi : i < 6) => show Calls Tryd.prog 20 #[.int .i64 (i : Int), .int .u8 7] w' (PPl w' (pl i 7)) from plain_any i 7 w' (by omega))
  have HAt := hid hat
  obtain ⟨m, hm⟩ : ∃ m, m = six fm := ⟨_, rfl⟩
  have hm6 : m < 6 := by rw [hm]; exact six_lt fm
  have hsx : wrap64 ((IntKind.u64.wrap fm).tmod 6) = (m : Int) := by rw [hm]; exact six_wrap fm
  have hs1 : wrap64 (1 + (m : Int)) = ((m + 1 : Nat) : Int) := by simp [wrap64]; omega
  clear hT hat hm
  go_enter Tryd.func6, Tryd.ntmps6
  go_upto_region 4 with (first
    | (go_at_call 18; refine HO.out.mono ?_; rintro e w1 ⟨p, dp, rfl, HL⟩)
    | (go_at_call 17; refine (HW.out w1 HL.out.adds).mono ?_; rintro e w2 ⟨rfl, hA2⟩; have HL2 := hid (HL.out.add hA2); clear hA2))
  unfold Ptr at *
  have HPu := hid (fun (w' : World) (i : Nat) (hi : i < 6) (h : LpE w w' p dp (pS i) (dSt.new 6) i 0) (pa : Option Addr) (k : Nat) (h1 : At w' pa (pl i 7)) (h2 : 256 ≤ k) (h3 : (pl i 7).length = 256) => show Calls Tryd.prog 9 #[.pointer (some ⟨p, 0, none⟩), .int .i64 (i : Int), .slice pa 256 k] w' (PLp w p dp (pS (i + 1)) (dSt.new 6) (i + 1) 0 (.int .i64 0)) by
    have q := lq_put h (by omega) (i : Int) pa (pl i 7) 256 k h3 h2 h1
    rw [(pS_put hi).1, (pS_put hi).2] at q
    exact q)
  have HAc := hid (fun (w' : World) (h : LpE w w' p dp (pS 6) (dSt.new 6) 6 0) => show Calls Tryd.prog 12 #[.pointer (some ⟨p, 0, none⟩)] w' (fun e w' => ∃ z : Int, e = .returned (.int .i64 z) ∧ Hid (LpE w w' p dp pA (dSt.new 6) 6 0)) by
    refine (lp_accept h h.good.acc).mono ?_
    rintro e w'' ⟨rfl, H⟩
    exact ⟨_, rfl, H⟩)
  have HFl := hid (fun (w' : World) (h : LpE w w' p dp pA (dSt.new 6) 6 0) => show Calls Tryd.prog 10 #[.pointer (some ⟨p, 0, none⟩)] w' (PLp w p dp (F.flS pA (dSt.new 6)) pD 6 7 (.int .i64 0)) by
    have q := lq_flush h (by rw [pA_dirty.1]; decide)
    rw [pD_fl, pA_dirty.1] at q
    exact q)
  have HOp := hid (fun (w' : World) (h : LpE w w' p dp (F.flS pA (dSt.new 6)) pD 6 7) (z : Int) (hz : z = ((m + 1 : Nat) : Int)) => show Calls Tryd.prog 7 #[.pointer (some ⟨dp, 0, none⟩), .int .i64 0, .int .i64 6, .int .i64 z] w' (fun e w' => ∃ q, e = .returned (.tuple #[.pointer (some ⟨q, 0, none⟩), .int .i64 0]) ∧ Hid (LpE w w' q dp (qS m []) pD 0 7)) by
    rw [hz]
    exact lp_open h (by rw [pD_on.2]; decide) 0 6 ((m + 1 : Nat) : Int) (decide_eq_true ⟨by decide, by decide, by decide, by rw [pD_on.2]; decide, by omega, by omega⟩))
  go_wp2_with fail
  go_loopw [35] (fun t wr => ∃ i : Nat, i ≤ 6 ∧ t = .int .i64 (i : Int) ∧ Hid (LpE w wr p dp (pS i) (dSt.new 6) i 0)) (fun t _ => 6 - (intOf t).toNat)
  case atStart => exact ⟨0, by omega, rfl, HL2.out⟩
  case round =>
    obtain ⟨i, hi, rfl, HI⟩ := hrel
    by_cases hlt : i < 6
    · have hltz : (i : Int) < 6 := by omega
      go_wp2_with (first
        | (go_at_call 20; refine (HPl.out _ i hlt).mono ?_; rintro e w3 ⟨pa, pk, rfl, Hp⟩)
        | (go_at_call 9; refine (HPu.out _ i hlt (HI.out.add Hp.out.2.2.2.2) pa pk Hp.out.2.1 Hp.out.2.2.1 Hp.out.2.2.2.1).mono ?_; rintro e w4 ⟨rfl, HL4⟩))
      go_roundw
      case rel => exact ⟨i + 1, by omega, by go_num, HL4.out⟩
      case measure => simp [intOf]; omega
    · obtain rfl : i = 6 := by omega
      have hltz : ¬ (6 : Int) < 6 := by omega
      go_upto_region 18 with (first
        | (go_at_call 12; refine (HAc.out _ HI.out).mono ?_; rintro e w3 ⟨za, rfl, H3⟩)
        | (go_at_call 10; refine (HFl.out _ H3.out).mono ?_; rintro e w4 ⟨rfl, H4⟩)
        | (go_at_call 7; refine (HOp.out _ H4.out _ (by omega)).mono ?_; rintro e w5 ⟨q, rfl, H5⟩))
      have HAW : Hid (AW w w5 q dp m 0 (.slice none 0 0) []) := ⟨⟨[], H5.out.x, AgX.nil _⟩, List.nodup_nil, by simp, fun k hk => by cases hk⟩
      have HGt := hid (fun (w' : World) (X : List (Nat × Obj)) (i c : Nat) (qs : List Int) (hc : c < 6) (hi : i ≤ 40) (h : LpX w w' X q dp (qS m qs) pD i 7) (hnd : qs.Nodup) (hl : qs.length ≤ m + 1) => show Calls Tryd.prog 8 #[.pointer (some ⟨q, 0, none⟩), .int .i64 (c : Int)] w' (fun e w'' => ∃ v, e = .returned (.tuple #[v, .int .i64 0]) ∧ Hid (LpX w w'' X q dp (qS m (F.nextAs (m + 1) qs (c : Int))) pD (i + 1) 7)) by
        have e := cl_get (B := pB) (n := m + 1) (by omega) (D := pD) (qs := qs) (z := (c : Int)) hnd hl (by omega) (by rw [pD_on.1]; decide) (pD_open hc) rfl
        refine (lx_get h (by omega) (by decide) (c : Int)).mono ?_
        rintro e' w'' ⟨v, rfl, H⟩
        refine ⟨v, ?_, ?_⟩
        · rw [show F.getE (qS m qs) pD (c : Int) = 0 from e.1]; rfl
        · have := H.out.2
          rw [show F.getS (qS m qs) pD (c : Int) = qS m (F.nextAs (m + 1) qs (c : Int)) from e.2] at this
          exact this)
      have HHd := hid (fun (w' : World) (X : List (Nat × Obj)) (i n : Nat) (qs : List Int) (h : LpX w w' X q dp (qS m qs) pD i 7) (hn : qs.length = n) => show Calls Tryd.prog 16 #[.pointer (some ⟨q, 0, none⟩)] w' (fun e w'' => ∃ ah kh, e = .returned (.slice ah n kh) ∧ Hid (NAt w'' ah (rise qs) ∧ Adds w' w'')) by
        have q := lp_held h.e
        rw [show F.which (qS m qs) F.isHeld = rise qs from cl_held pB _ qs] at q
        refine q.mono ?_
        rintro e w'' ⟨v, rfl, H⟩
        obtain ⟨ah, kh, rfl, hna⟩ := row_nat H.out.1
        exact ⟨ah, kh, by rw [length_rise, hn], hna, H.out.2⟩)
      go_wp2_with fail
      go_loopw [11, 12] (fun v t wr => ∃ (i : Nat) (qs : List Int), t = .int .i64 (i : Int) ∧ i ≤ 40 ∧ Hid (AW w wr q dp m i v qs)) (fun _ t _ => 40 - (intOf t).toNat)
      case atStart => exact ⟨0, [], rfl, by omega, HAW.out⟩
      case round =>
        obtain ⟨i, qs, rfl, hi, HI⟩ := hrel
        obtain ⟨X, hX, hAg⟩ := HI.out.lp
        obtain ⟨qn, hqn⟩ : ∃ qn, qs.length = qn := ⟨_, rfl⟩
        obtain ⟨a2, k2, ev⟩ : ∃ a2 k2, u11 = .slice a2 qn k2 := by
          obtain ⟨a2, k2, e, _⟩ := hAg
          exact ⟨a2, k2, by rw [e, hqn]⟩
        subst ev
        have hq7 : qn ≤ 7 := by rw [← hqn]; exact Nat.le_trans HI.out.len (by omega)
        have HQn := hid hqn
        have HX := hid hX
        have HAg0 := hid hAg
        clear hX hAg hqn
        by_cases hl : i < len
        · by_cases h40 : i < 40
          · obtain ⟨b, o, z, ea, hz⟩ := HAt.out i hl
            have hc : wr.cell? ⟨b, o + i, none⟩ = some (.int .i64 z) := below_adds HX.out.e.adds hz
            obtain ⟨c, hcd⟩ : ∃ c, c = six z := ⟨_, rfl⟩
            have hc6 : c < 6 := by rw [hcd]; exact six_lt z
            have hcz : wrap64 ((IntKind.u64.wrap z).tmod 6) = (c : Int) := by rw [hcd]; exact six_wrap z
            have d1 : decide (i < len) = true := by simpa using hl
            have d1' : decide ((i : Int) < (len : Int)) = true := by simpa using hl
            have d2 : decide ((i : Int) < 40) = true := by simp; omega
            subst ea
            clear hz hcd
            go_upto_region 26 with (first
              | (go_at_call 8; refine (HGt.out _ X i c qs hc6 hi HX.out HI.out.nd HI.out.len).mono ?_; rintro e w6 ⟨gv, rfl, H6⟩))
            have HQ6 := hid (nextAs_ok (n := m + 1) HI.out.nd HI.out.len HI.out.six (z := (c : Int)) (by omega))
            have HN6 := hid (fun w' (hA : Adds w6 w') => (AgX.nat2 HAg0.out H6.out).1.adds hA)
            go_wp2_with fail
            go_loopw [16, 94] (fun v t wr => ∃ j : Nat, j ≤ qn ∧ t = .int .i64 (j : Int) ∧ Hid (Adds w6 wr ∧ wr.ownsRow w6.heap.size 3 1 v ((qs.take j).filter (fun k => decide (k ≠ (c : Int)))).length (I ((qs.take j).filter (fun k => decide (k ≠ (c : Int))))))) (fun _ t _ => qn - (intOf t).toNat)
            case atStart => exact ⟨0, Nat.zero_le _, rfl, Touch.refl _ _, World.ownsRow_nil _ _ _ _⟩
            case round =>
              obtain ⟨j, hj, rfl, HJ⟩ := hrel
              obtain ⟨v16, hv16⟩ : ∃ v16, v16 = u16 := ⟨_, rfl⟩
              rw [← hv16] at HJ ⊢
              clear hv16
              by_cases hjl : j < qn
              · have hjz : (j : Int) < (qn : Int) := by omega
                have hjq : j < qs.length := by rw [HQn.out]; exact hjl
                obtain ⟨bj, oj, eaj, hcj⟩ := HN6.out wr HJ.out.1 j hjq
                obtain ⟨kj, hkj⟩ : ∃ kj, kj = qs[j] := ⟨_, rfl⟩
                have HF := hid (filter_next (c := (c : Int)) hjq)
                rw [← hkj] at hcj HF
                clear hkj
                subst eaj
                by_cases hkc : kj = (c : Int)
                · have hkb : (kj != (c : Int)) = false := by simpa using hkc
                  rw [if_neg (by simpa using hkc), List.append_nil] at HF
                  clear hkc
                  go_wp2_with fail
                  go_roundw
                  case rel => exact ⟨j + 1, by omega, by go_num, HJ.out.1, by rw [HF.out]; exact HJ.out.2⟩
                  case measure => simp [intOf]; omega
                · have hkb : (kj != (c : Int)) = true := by simpa using hkc
                  rw [if_pos hkc] at HF
                  clear hkc
                  obtain ⟨fl, hfl⟩ : ∃ fl, fl = (qs.take j).filter (fun k => decide (k ≠ (c : Int))) := ⟨_, rfl⟩
                  rw [← hfl] at HJ HF
                  have hfb : fl.length ≤ 100 := by
                    rw [hfl]
                    refine Nat.le_trans (List.length_filter_le _ _) ?_
                    rw [List.length_take]
                    omega
                  have HFb := hid hfb
                  clear hfl hfb
                  go_wp2_with (first
                    | (at_builtin; refine append_i1 rfl _ _ rfl w6.heap.size _ _ _ rfl (row_keep HJ.out.2 ((Touch.refl (fun _ => False) wr).alloc _) (fun _ _ => id)) wr.heap.size kj rfl (cellOf (heap_alloc_new wr _) 0) (by have := HFb.out; omega) (by simp; have := HJ.out.1.size; omega) ?_; intro v' w7 hr7 hg7; have H7 := hid (And.intro hr7 hg7); clear hr7 hg7)
                    | go_in)
                  go_roundw
                  case rel =>
                    refine ⟨j + 1, by omega, by go_num, ?_, ?_⟩
                    · exact Touch.grown (T := fun _ => False) (HJ.out.1.alloc _) H7.out.2 (fun k hk hlt => by have := (row_low HJ.out.2 hk).1; omega)
                    · rw [HF.out]
                      have e : I (fl ++ [kj]) = I fl ++ [.int .i64 kj] := by simp [I]
                      rw [e, List.length_append]
                      exact H7.out.1
                  case measure => simp [intOf]; omega
              · have hjz : ¬ (j : Int) < (qn : Int) := by omega
                obtain rfl : j = qn := by omega
                have HJ2 := hid HJ.out
                rw [← HQn.out, List.take_length] at HJ2
                obtain ⟨fl, hfl⟩ : ∃ fl, fl = qs.filter (fun k => decide (k ≠ (c : Int))) := ⟨_, rfl⟩
                rw [← hfl] at HJ2
                have HFl2 := hid hfl
                have HFb := hid (show fl.length ≤ 100 by rw [hfl]; exact Nat.le_trans (List.length_filter_le _ _) (by rw [HQn.out]; omega))
                have HNx : Hid (F.nextAs (m + 1) qs (c : Int) = if m + 1 < fl.length + 1 then (fl ++ [(c : Int)]).tail else fl ++ [(c : Int)]) := by
                  show _ = _
                  unfold F.nextAs
                  rw [← hfl, List.length_append, List.length_singleton]
                clear hfl
                go_upto_region 33 with (first
                  | (at_builtin; refine append_i1 rfl _ _ rfl w6.heap.size _ _ _ rfl (row_keep HJ2.out.2 ((Touch.refl (fun _ => False) wr).alloc _) (fun _ _ => id)) wr.heap.size (c : Int) rfl (cellOf (heap_alloc_new wr _) 0) (by have := HFb.out; omega) (by simp; have := HJ2.out.1.size; omega) ?_; intro v' w7 hr7 hg7; have H7 := hid (And.intro hr7 hg7); clear hr7 hg7)
                  | go_in)
                have hA7 : Adds w6 w7 := Touch.grown (T := fun _ => False) (HJ2.out.1.alloc _) H7.out.2 (fun k hk hlt => by have := (row_low HJ2.out.2 hk).1; omega)
                have hrow7 : w7.ownsRow w6.heap.size 3 1 v' (fl ++ [(c : Int)]).length (I (fl ++ [(c : Int)])) := by
                  have e : I (fl ++ [(c : Int)]) = I fl ++ [.int .i64 (c : Int)] := by simp [I]
                  rw [e, List.length_append]
                  exact H7.out.1
                obtain ⟨Y, hY, hAgY⟩ := row_ag H6.out hA7 hrow7 (Nat.le_refl _)
                obtain ⟨fn, hfn⟩ : ∃ fn, fn = fl.length := ⟨_, rfl⟩
                obtain ⟨a9, k9, ev9, hk9⟩ : ∃ a9 k9, v' = .slice a9 (fn + 1) k9 ∧ fn + 1 ≤ k9 := by
                  obtain ⟨a9, k9, e, hle, _⟩ := own_cq hrow7
                  rw [List.length_append, List.length_singleton, ← hfn] at e hle
                  exact ⟨a9, k9, e, hle⟩
                subst ev9
                have hfb : fn ≤ 100 := by rw [hfn]; exact HFb.out
                have HFn := hid hfn
                clear hfn
                have HLx := hid hY
                have HAg := hid hAgY
                clear hrow7 hY hAgY hA7 H7
                by_cases hbig : m + 1 < fn + 1
                · have hbz : 1 + (m : Int) < ((fn + 1 : Nat) : Int) := by omega
                  have hbz' : 1 + (m : Int) < (fn : Int) + 1 := by omega
                  have hq9 : F.nextAs (m + 1) qs (c : Int) = (fl ++ [(c : Int)]).tail := by rw [HNx.out, if_pos (by rw [← HFn.out]; exact hbig)]
                  rw [hq9] at HLx HQ6
                  obtain ⟨x9, t9, e9⟩ : ∃ x9 t9, fl ++ [(c : Int)] = x9 :: t9 := by cases fl with | nil => exact ⟨_, _, rfl⟩ | cons x l => exact ⟨_, _, rfl⟩
                  rw [e9] at HAg HLx HQ6
                  have ht9 : t9.length = fn := by have := congrArg List.length e9; simp at this; have := HFn.out; omega
                  obtain ⟨b9, o9, ea9, hAt9⟩ := HAg.out.tail
                  subst ea9
                  have hsl := run_sufI (some ⟨b9, o9, none⟩) (fn + 1) k9 1 (by omega) w7
                  have hsa : sufAt (some ⟨b9, o9, none⟩) k9 1 = some ⟨b9, o9 + 1, none⟩ := by unfold sufAt; rw [if_neg (by omega)]; rfl
                  rw [hsa, show fn + 1 - 1 = fn by omega] at hsl
                  rw [ht9] at hAt9
                  have HAg := hid hAt9
                  obtain ⟨q9, hq⟩ : ∃ q9, q9 = t9 := ⟨_, rfl⟩
                  have HLx : Hid (LpX w w7 Y q dp (qS m q9) pD (i + 1) 7) := by rw [hq]; exact HLx.out
                  have HQ := hid (show q9.Nodup ∧ q9.length ≤ m + 1 ∧ ∀ k ∈ q9, 0 ≤ k ∧ k < 6 by rw [hq]; exact ⟨HQ6.out.1, by rcases HQ6.out.2.2.1 with c | c; exact c; omega, HQ6.out.2.2.2⟩)
                  rw [← hq] at HAg ht9
                  obtain ⟨n9, hn9⟩ : ∃ n9, n9 = fn := ⟨_, rfl⟩
                  rw [← hn9] at ht9 HAg hsl
                  have HN9 := hid ht9
                  clear hq9 e9 hsa hAt9 hq ht9
                  go_upto_region 35 with fail
                  rw [show fn = n9 from hn9.symm]
                  clear hn9
                  have HNA := hid (fun w' (hA : Adds w7 w') => (AgX.nat2 HAg.out HLx.out).1.adds hA)
                  have hnb : n9 ≤ 7 := by rw [← HN9.out]; exact Nat.le_trans HQ.out.2.1 (by omega)
                  go_upto_region 38 with (first
                    | (go_at_call 16; refine (HHd.out _ Y (i + 1) n9 q9 HLx.out HN9.out).mono ?_; rintro e w8 ⟨ah, kh, rfl, H8⟩))
                  go_wp2_with fail
                  go_loopw [125] (fun t wr => ∃ j : Nat, j ≤ n9 ∧ t = .int .i64 (j : Int) ∧ Hid (Adds w8 wr)) (fun t _ => n9 - (intOf t).toNat)
                  case atStart => exact ⟨0, Nat.zero_le _, rfl, Touch.refl _ _⟩
                  case round =>
                    obtain ⟨j, hj, rfl, HJ⟩ := hrel
                    obtain ⟨wj, hwj⟩ : ∃ wj, wj = wr := ⟨_, rfl⟩
                    rw [← hwj] at HJ ⊢
                    clear hwj
                    by_cases hjl : j < n9
                    · have hjz : (j : Int) < (n9 : Int) := by omega
                      have hj9 : j < q9.length := by rw [HN9.out]; exact hjl
                      obtain ⟨bj, oj, eaj, hcj⟩ := HNA.out wj (H8.out.2.trans HJ.out) j hj9
                      obtain ⟨kj, hkj⟩ : ∃ kj, kj = q9[j] := ⟨_, rfl⟩
                      rw [← hkj] at hcj
                      have HKm := hid (show kj ∈ rise q9 by rw [(rise_perm q9).mem_iff, hkj]; exact List.getElem_mem hj9)
                      clear hkj
                      cases eaj
                      go_wp2_with fail
                      go_loopw [22, 131] (fun fv t wr => ∃ (r : Nat) (fnd : Bool), r ≤ n9 ∧ t = .int .i64 (r : Int) ∧ fv = .bool fnd ∧ Hid (Adds wj wr ∧ fnd = ((rise q9).take r).contains kj)) (fun _ t _ => n9 - (intOf t).toNat)
                      case atStart => exact ⟨0, false, Nat.zero_le _, rfl, rfl, Touch.refl _ _, rfl⟩
                      case round =>
                        obtain ⟨r, fnd, hr, rfl, rfl, HR⟩ := hrel
                        by_cases hrl : r < n9
                        · have hrz : (r : Int) < (n9 : Int) := by omega
                          have hr9 : r < (rise q9).length := by rw [length_rise, HN9.out]; exact hrl
                          obtain ⟨bh, oh, eah, hch⟩ := (H8.out.1.adds (HJ.out.trans HR.out.1)) r hr9
                          obtain ⟨kr, hkr⟩ : ∃ kr, kr = (rise q9)[r] := ⟨_, rfl⟩
                          rw [← hkr] at hch
                          have HKr := hid (show ((rise q9).take (r + 1)).contains kj = (fnd || (kr == kj)) by
                            rw [take_has hr9, HR.out.2, hkr])
                          clear hkr
                          cases eah
                          cases fnd with
                          | true =>
                            go_wp2_with fail
                            go_roundw
                            case rel => exact ⟨r + 1, true, by omega, by go_num, rfl, HR.out.1, by rw [HKr.out]; rfl⟩
                            case measure => simp [intOf]; omega
                          | false =>
                            obtain ⟨be, hbe⟩ : ∃ be, be = (kr == kj) := ⟨_, rfl⟩
                            have hbe' : (kr == kj) = be := hbe.symm
                            have HBe := hid hbe
                            clear hbe
                            go_wp2_with fail
                            go_roundw
                            case rel => exact ⟨r + 1, be, by omega, by go_num, by first | rfl | (rw [← hbe']; rfl), HR.out.1, by rw [HKr.out, HBe.out]; rfl⟩
                            case measure => simp [intOf]; omega
                        · have hrz : ¬ (r : Int) < (n9 : Int) := by omega
                          obtain rfl : r = n9 := by omega
                          have hft : fnd = true := by
                            rw [HR.out.2, List.take_of_length_le (by rw [length_rise, HN9.out]; exact Nat.le_refl _)]
                            simpa using HKm.out
                          subst hft
                          go_wp2_with fail
                          go_roundw
                          case rel => exact ⟨j + 1, by omega, by go_num, HJ.out.trans HR.out.1⟩
                          case measure => simp [intOf]; omega
                    · have hjz : ¬ (j : Int) < (n9 : Int) := by omega
                      go_wp2_with fail
                      go_roundw
                      case rel => exact ⟨i + 1, q9, by go_num, by omega, ⟨Y, HLx.out.add (H8.out.2.trans HJ.out), HAg.out⟩, HQ.out.1, HQ.out.2.1, HQ.out.2.2⟩
                      case measure => simp [intOf]; omega
                · have hbz : ¬ 1 + (m : Int) < ((fn + 1 : Nat) : Int) := by omega
                  have hbz' : ¬ 1 + (m : Int) < (fn : Int) + 1 := by omega
                  have hq9 : F.nextAs (m + 1) qs (c : Int) = fl ++ [(c : Int)] := by rw [HNx.out, if_neg (by rw [← HFn.out]; exact hbig)]
                  rw [hq9] at HLx HQ6
                  obtain ⟨q9, hq⟩ : ∃ q9, q9 = fl ++ [(c : Int)] := ⟨_, rfl⟩
                  rw [← hq] at HAg HLx HQ6
                  have HQ := hid (show q9.Nodup ∧ q9.length ≤ m + 1 ∧ ∀ k ∈ q9, 0 ≤ k ∧ k < 6 from ⟨HQ6.out.1, by rcases HQ6.out.2.2.1 with c | c; exact c; omega, HQ6.out.2.2.2⟩)
                  obtain ⟨n9, hn9⟩ : ∃ n9, n9 = fn + 1 := ⟨_, rfl⟩
                  have HN9 := hid (show q9.length = n9 by rw [hq, List.length_append, List.length_singleton, ← HFn.out, hn9])
                  rw [← hn9] at HAg
                  clear hq9 hq
                  go_upto_region 35 with fail
                  rw [show fn + 1 = n9 from hn9.symm]
                  clear hn9
                  have HNA := hid (fun w' (hA : Adds w7 w') => (AgX.nat2 HAg.out HLx.out).1.adds hA)
                  have hnb : n9 ≤ 7 := by rw [← HN9.out]; exact Nat.le_trans HQ.out.2.1 (by omega)
                  go_upto_region 38 with (first
                    | (go_at_call 16; refine (HHd.out _ Y (i + 1) n9 q9 HLx.out HN9.out).mono ?_; rintro e w8 ⟨ah, kh, rfl, H8⟩))
                  go_wp2_with fail
                  go_loopw [125] (fun t wr => ∃ j : Nat, j ≤ n9 ∧ t = .int .i64 (j : Int) ∧ Hid (Adds w8 wr)) (fun t _ => n9 - (intOf t).toNat)
                  case atStart => exact ⟨0, Nat.zero_le _, rfl, Touch.refl _ _⟩
                  case round =>
                    obtain ⟨j, hj, rfl, HJ⟩ := hrel
                    obtain ⟨wj, hwj⟩ : ∃ wj, wj = wr := ⟨_, rfl⟩
                    rw [← hwj] at HJ ⊢
                    clear hwj
                    by_cases hjl : j < n9
                    · have hjz : (j : Int) < (n9 : Int) := by omega
                      have hj9 : j < q9.length := by rw [HN9.out]; exact hjl
                      obtain ⟨bj, oj, eaj, hcj⟩ := HNA.out wj (H8.out.2.trans HJ.out) j hj9
                      obtain ⟨kj, hkj⟩ : ∃ kj, kj = q9[j] := ⟨_, rfl⟩
                      rw [← hkj] at hcj
                      have HKm := hid (show kj ∈ rise q9 by rw [(rise_perm q9).mem_iff, hkj]; exact List.getElem_mem hj9)
                      clear hkj
                      cases eaj
                      go_wp2_with fail
                      go_loopw [22, 131] (fun fv t wr => ∃ (r : Nat) (fnd : Bool), r ≤ n9 ∧ t = .int .i64 (r : Int) ∧ fv = .bool fnd ∧ Hid (Adds wj wr ∧ fnd = ((rise q9).take r).contains kj)) (fun _ t _ => n9 - (intOf t).toNat)
                      case atStart => exact ⟨0, false, Nat.zero_le _, rfl, rfl, Touch.refl _ _, rfl⟩
                      case round =>
                        obtain ⟨r, fnd, hr, rfl, rfl, HR⟩ := hrel
                        by_cases hrl : r < n9
                        · have hrz : (r : Int) < (n9 : Int) := by omega
                          have hr9 : r < (rise q9).length := by rw [length_rise, HN9.out]; exact hrl
                          obtain ⟨bh, oh, eah, hch⟩ := (H8.out.1.adds (HJ.out.trans HR.out.1)) r hr9
                          obtain ⟨kr, hkr⟩ : ∃ kr, kr = (rise q9)[r] := ⟨_, rfl⟩
                          rw [← hkr] at hch
                          have HKr := hid (show ((rise q9).take (r + 1)).contains kj = (fnd || (kr == kj)) by
                            rw [take_has hr9, HR.out.2, hkr])
                          clear hkr
                          cases eah
                          cases fnd with
                          | true =>
                            go_wp2_with fail
                            go_roundw
                            case rel => exact ⟨r + 1, true, by omega, by go_num, rfl, HR.out.1, by rw [HKr.out]; rfl⟩
                            case measure => simp [intOf]; omega
                          | false =>
                            obtain ⟨be, hbe⟩ : ∃ be, be = (kr == kj) := ⟨_, rfl⟩
                            have hbe' : (kr == kj) = be := hbe.symm
                            have HBe := hid hbe
                            clear hbe
                            go_wp2_with fail
                            go_roundw
                            case rel => exact ⟨r + 1, be, by omega, by go_num, by first | rfl | (rw [← hbe']; rfl), HR.out.1, by rw [HKr.out, HBe.out]; rfl⟩
                            case measure => simp [intOf]; omega
                        · have hrz : ¬ (r : Int) < (n9 : Int) := by omega
                          obtain rfl : r = n9 := by omega
                          have hft : fnd = true := by
                            rw [HR.out.2, List.take_of_length_le (by rw [length_rise, HN9.out]; exact Nat.le_refl _)]
                            simpa using HKm.out
                          subst hft
                          go_wp2_with fail
                          go_roundw
                          case rel => exact ⟨j + 1, by omega, by go_num, HJ.out.trans HR.out.1⟩
                          case measure => simp [intOf]; omega
                    · have hjz : ¬ (j : Int) < (n9 : Int) := by omega
                      go_wp2_with fail
                      go_roundw
                      case rel => exact ⟨i + 1, q9, by go_num, by omega, ⟨Y, HLx.out.add (H8.out.2.trans HJ.out), HAg.out⟩, HQ.out.1, HQ.out.2.1, HQ.out.2.2⟩
                      case measure => simp [intOf]; omega
          · have d1 : decide (i < len) = true := by simpa using hl
            have d1' : decide ((i : Int) < (len : Int)) = true := by simpa using hl
            have d2 : decide ((i : Int) < 40) = false := by simp; omega
            go_wp2_with fail
            go_ret
            exact ⟨rfl, HX.out.e.adds⟩
        · have d1 : decide (i < len) = false := by simpa using hl
          have d1' : decide ((i : Int) < (len : Int)) = false := by simpa using hl
          go_wp2_with fail
          go_ret
          exact ⟨rfl, HX.out.e.adds⟩
end Go.Proofs.YtjbdchgadfhffaaDoor
