/- The reference's Parse, of 256 bytes. -/
import Derived.Test.YtidkmamjhpckgaaDoorRParse0
import Derived.Deep.CutBlock
import Derived.Deep.DeepCutAuto
namespace Go.Proofs.YtidkmamjhpckgaaDoor
open Go.RowKit

theorem infoI : ∃ i, Tryd.prog.info? 3 = some i ∧ i.zero = some (.int .i64 0) ∧ i.size = 1 ∧ i.bytes = 8 := by
  have h : (Tryd.prog.info? 3).map (fun i => (i.zero, i.size, i.bytes)) = some (some (.int .i64 0), 1, 8) := by kernel_rfl
  cases hq : Tryd.prog.info? 3 with
  | none => rw [hq] at h; cases h
  | some i =>
    rw [hq] at h
    simp only [Option.map_some, Option.some.injEq, Prod.mk.injEq] at h
    exact ⟨i, rfl, h.1, h.2.1, h.2.2⟩
theorem append_i1 {w : World} {ops : Array Oper} {rest : List Oper} {o : Oper} {act : Act} {Q : Exit → Act → World → Prop} (hgd : o.guard = none) (s x : Operand)
    (ho : o.op = .call { callee := .builtin .append, args := #[s, x], argTypes := #[66, 66] }) (v : Value) (n : Nat) (xs : List Value) (hs : act.eval s = v) (hown : w.ownsRow 0 3 1 v n xs)
    (g : Nat) (u : Value) (hx : act.eval x = .slice (some ⟨g, 0, none⟩) 1 1) (hc : w.cell? ⟨g, 0, none⟩ = some u) (hu : u.oneCell' = true) (hlen : n ≤ 10000000)
    (h : ∀ v' w', Grew w w' 3 v v' (n + 1) (xs ++ [u]) → wpList Tryd.prog ops Q rest (act.put o.dst v') w') : wpList Tryd.prog ops Q (o :: rest) act w := by
  obtain ⟨i0, hi, hz0, hz1, hz2⟩ := infoI
  refine wpList_append_own_at _ hgd s x 66 ho 0 3 i0 (.int .i64 0) 1 8 Tryd.underlying66 hi hz0 hz1 hz2 rfl (by decide) v n xs hs hown ⟨g, 0, none⟩ 1 1 [u] hx rfl ?_ (fun y hy => by rw [List.mem_singleton.1 hy]; exact hu) (by unfold maxLen; omega) (by omega) (Nat.zero_le _) (fun v' w' h1 h2 _ h4 => h v' w' ⟨h1, h2, h4⟩)
  intro j y hj
  match j, hj with
  | 0, hj =>
    obtain rfl : u = y := by simpa using hj
    rw [Addr.add_mid]; exact hc
/-- A number's bytes, one alone. -/
theorem unfix1 {l : List UInt8} {j : Nat} (h : j < l.length) : M.unfix ((l.drop j).take 1) = (l.getD j 0).toNat := by
  rw [List.drop_eq_getElem_cons h, List.take_succ_cons, List.take_zero, List.getD_eq_getElem?_getD, List.getElem?_eq_getElem h]
  simp [M.unfix]
/-- Sizes as values. -/
abbrev IV (n : Nat) : Value := .int .i64 (n : Int)
set_option maxRecDepth 100000 in
set_option maxHeartbeats 2000000 in
theorem rparse_256 (b o : Nat) (bs : List UInt8) (cap : Nat) (w : World) (hn : bs.length = 256) (hc : 256 ≤ cap) (hA : At w (some ⟨b, o, none⟩) bs) (h0 : ¬ 127 < (bs.getD 0 0).toNat) (h4 : M.pKd bs ≠ 0) : Calls Tryd.prog 16 #[.slice (some ⟨b, o, none⟩) 256 cap] w (PParse w bs) := by
  obtain ⟨wA, hwA⟩ : ∃ wA, wA = w.alloc (Obj.cells #[Value.int IntKind.i64 0, Value.int IntKind.u8 0, Value.slice none 0 0] 47) := ⟨_, rfl⟩
  have hbw : b < w.heap.size := by
    obtain ⟨b', o', e, hc⟩ := hA 0 bs[0] (List.getElem?_eq_getElem (by omega))
    cases e
    exact World.block_lt_of_cell? w _ hc
  have hA' := hA.adds (show Adds w wA by rw [hwA]; exact (Touch.refl _ w).alloc _)
  obtain ⟨_, _, ec, c0⟩ := hA' 0 (bs.getD 0 0) (by rw [List.getD_eq_getElem?_getD, List.getElem?_eq_getElem (by omega : 0 < bs.length)]; rfl)
  cases ec
  obtain ⟨_, _, ec, c4⟩ := hA' 4 (M.pKd bs) (by rw [M.pKd, List.getD_eq_getElem?_getD, List.getElem?_eq_getElem (by omega : 4 < bs.length)]; rfl)
  cases ec
  rw [hwA] at c0 c4
  rw [Nat.add_zero] at c0
  have hno : ¬ 2147483647 < M.pNo bs := fun c => h0 ((M.no_high hn).1 c)
  have h4' : (((M.pKd bs).toNat : Int) == 0) = false := by
    rw [beq_eq_false_iff_ne]
    intro e
    exact h4 (UInt8.toNat_inj.1 (by simpa using (show (M.pKd bs).toNat = 0 by omega)))
  generalize bs.getD 0 0 = x0 at *
  have h0' : decide ((127 : Int) < (x0.toNat : Int)) = false := by simp; omega
  obtain ⟨no, hno0⟩ : ∃ no, M.pNo bs = no := ⟨_, rfl⟩
  obtain ⟨kd, hkd0⟩ : ∃ kd, M.pKd bs = kd := ⟨_, rfl⟩
  obtain ⟨N, hN0⟩ : ∃ N, M.pN bs = N := ⟨_, rfl⟩
  obtain ⟨T, hT0⟩ : ∃ T, M.pT bs = T := ⟨_, rfl⟩
  have hN255 : N ≤ 255 := by rw [← hN0]; have := (bs.getD 5 0).toNat_lt; unfold M.pN; omega
  have hT16 : T ≤ 65535 := by
    have := (M.fix_unfix 2 ((bs.drop 6).take 2) (by rw [List.length_take, List.length_drop]; omega)).2
    rw [← hT0]; unfold M.pT; omega
  have HD := hid (And.intro hno0 (And.intro hkd0 (And.intro hN0 (And.intro hT0 (And.intro hn (And.intro hno h4))))))
  have HAt := hid hA
  have hno2 : no ≤ 2147483647 := by rw [← hno0]; omega
  rw [hkd0] at c4 h4'
  have hkb : (kd.toNat : Int) % 256 = (kd.toNat : Int) := by have := kd.toNat_lt; omega
  have hkw : IntKind.u8.wrap (kd.toNat : Int) = (kd.toNat : Int) := by show (kd.toNat : Int) % 256 = _; exact hkb
  clear hA' hA hwA hno0 hkd0 hN0 hT0 hno h4 h0
  go_enter Tryd.func16, Tryd.ntmps16
  go_upto_region 5 with fail
  obtain ⟨w0, hw0⟩ : ∃ w0, w0 = ((w.alloc (Obj.cells #[Value.int IntKind.i64 0, Value.int IntKind.u8 0, Value.slice none 0 0] 47)).alloc (Obj.cells #[Value.slice (some ⟨b, o, none⟩) 256 cap, Value.int IntKind.i64 0] 65)).alloc (Obj.cells #[Value.int IntKind.i64 0, Value.int IntKind.u8 0, Value.slice none 0 0] 47) := ⟨_, rfl⟩
  have HP0 := hid (show Ps w w0 w.heap.size bs 0 0 (.slice none 0 0) by
    rw [hw0]
    have hA3 : Adds w (((w.alloc (Obj.cells #[Value.int IntKind.i64 0, Value.int IntKind.u8 0, Value.slice none 0 0] 47)).alloc (Obj.cells #[Value.slice (some ⟨b, o, none⟩) 256 cap, Value.int IntKind.i64 0] 65)).alloc (Obj.cells #[Value.int IntKind.i64 0, Value.int IntKind.u8 0, Value.slice none 0 0] 47)) := (((Touch.refl _ w).alloc _).alloc _).alloc _
    refine ⟨⟨⟨some ⟨b, o, none⟩, cap, ?_, ⟨HAt.out.adds hA3, by show bs.length ≤ cap; rw [HD.out.2.2.2.2.1]; exact hc, fun e => (by cases e), fun ad e => by cases e; exact ⟨rfl, by show b < w.heap.size + 1; omega⟩⟩⟩, fun e => absurd rfl e, by show bs.length ≤ 1000000; rw [HD.out.2.2.2.2.1]; decide, by show 0 ≤ 100; decide⟩, ?_, ?_, hA3, rfl⟩
    · rw [HD.out.2.2.2.2.1]
      have q := ((Touch.refl (fun _ => False) _).alloc (Obj.cells #[Value.int IntKind.i64 0, Value.int IntKind.u8 0, Value.slice none 0 0] 47)).at' (heap_alloc_new (w.alloc (Obj.cells #[Value.int IntKind.i64 0, Value.int IntKind.u8 0, Value.slice none 0 0] 47)) (Obj.cells #[Value.slice (some ⟨b, o, none⟩) 256 cap, Value.int IntKind.i64 0] 65)) id
      simpa using q
    · have q := heap_alloc_new ((w.alloc (Obj.cells #[Value.int IntKind.i64 0, Value.int IntKind.u8 0, Value.slice none 0 0] 47)).alloc (Obj.cells #[Value.slice (some ⟨b, o, none⟩) 256 cap, Value.int IntKind.i64 0] 65)) (Obj.cells #[Value.int IntKind.i64 0, Value.int IntKind.u8 0, Value.slice none 0 0] 47)
      simpa using q
    · exact ((((Touch.refl (fun _ => False) _).alloc _).alloc _).at' (heap_alloc_new w _) id))
  rw [← hw0]
  clear hw0 c0 c4
  obtain ⟨B, hB⟩ : ∃ B, B = w.heap.size := ⟨_, rfl⟩
  have HB := hid hB
  rw [← hB] at HP0 ⊢
  rw [← hB] at hbw
  clear hB
  go_upto_region 6 with (go_at_call 33; refine (rfixed_put 4 4 no (by decide) (by rw [HD.out.2.2.2.2.1]; decide) HD.out.1 HP0.out.rd).mono ?_; rintro e w1 ⟨rfl, hr, hT⟩; have P1 := hid (HP0.out.reader hr hT); obtain ⟨⟨c0, c1, c2⟩, f0, f1, f2⟩ := P1.out.cell; clear hr hT)
  have P2 := hid (P1.out.put (no' := (no : Int)) (kd' := 0) (v' := .slice none 0 0) 0 (x := .int .i64 (no : Int)) rfl)
  clear c0 c1 c2 f0 f1 f2 P1
  generalize w1.setCell ⟨B + 2, 0, none⟩ (.int .i64 (no : Int)) = w2 at P2 ⊢
  have l4 : 1 ≤ (bs.drop 4).length := by rw [List.length_drop, HD.out.2.2.2.2.1]; decide
  have l5 : 1 ≤ ((bs.drop 4).drop 1).length := by rw [List.length_drop, List.length_drop, HD.out.2.2.2.2.1]; decide
  have l6 : 2 ≤ (((bs.drop 4).drop 1).drop 1).length := by rw [List.length_drop, List.length_drop, List.length_drop, HD.out.2.2.2.2.1]; decide
  have HLs := hid (And.intro l4 (And.intro l5 l6))
  have HV := hid (show M.unfix ((bs.drop 4).take 1) = kd.toNat ∧ M.unfix (((bs.drop 4).drop 1).take 1) = N ∧ M.unfix ((((bs.drop 4).drop 1).drop 1).take 2) = T by
    refine ⟨by rw [unfix1 (by rw [HD.out.2.2.2.2.1]; decide), ← HD.out.2.1]; rfl, by rw [List.drop_drop, unfix1 (by rw [HD.out.2.2.2.2.1]; decide), ← HD.out.2.2.1]; rfl, by rw [List.drop_drop, List.drop_drop, ← HD.out.2.2.2.1]; rfl⟩)
  clear l4 l5 l6 HP0
  go_upto_region 7 with (go_at_call 33; refine (rfixed_put 1 1 kd.toNat (by decide) HLs.out.1 HV.out.1 P2.out.rd).mono ?_; rintro e w3 ⟨rfl, hr, hT⟩; have P3 := hid (P2.out.reader hr hT); obtain ⟨⟨c0, c1, c2⟩, f0, f1, f2⟩ := P3.out.cell; clear hr hT)
  have P4 := hid (P3.out.put (no' := (no : Int)) (kd' := (kd.toNat : Int)) (v' := .slice none 0 0) 1 (x := .int .u8 (kd.toNat : Int)) rfl)
  clear c0 c1 c2 f0 f1 f2 P3 P2
  generalize w3.setCell ⟨B + 2, 1, none⟩ (.int .u8 (kd.toNat : Int)) = w4 at P4 ⊢
  go_upto_region 9 with (first
    | (go_at_call 33; refine (rfixed_put 2 2 T (by decide) HLs.out.2.2 HV.out.2.2 P5.out.rd).mono ?_; rintro e w6 ⟨rfl, hr, hT⟩; have P6 := hid (P5.out.reader hr hT); clear hr hT)
    | (go_at_call 33; refine (rfixed_put 1 1 N (by decide) HLs.out.2.1 HV.out.2.1 P4.out.rd).mono ?_; rintro e w5 ⟨rfl, hr, hT⟩; have P5 := hid (P4.out.reader hr hT); clear hr hT))
  have P7 := hid (show Ps w w6 B (bs.drop 8) (no : Int) (kd.toNat : Int) (.slice none 0 0) by have q := P6.out; rw [List.drop_drop, List.drop_drop, List.drop_drop] at q; exact q)
  clear P4 P5 P6 HLs HV
  by_cases hbig : 244 < 2 * N + T
  · have HN := hid (show M.readP bs = none from M.read_not HD.out.2.2.2.2.1 (.inr (.inr (by rw [HD.out.2.2.1, HD.out.2.2.2.1]; exact hbig))))
    have h1 : (244 : Int) < 2 * (N : Int) + (T : Int) := by omega
    obtain ⟨⟨r0, r1, r2⟩, s0, s1, s2⟩ := P7.out.res
    go_wp2_with fail
    refine bodyPost_ret (v := .tuple #[.agg #[.int .i64 0, .int .u8 0, .slice none 0 0], .bool false]) (by simp [results, Tryd.results16, go_sem, r0, r1, r2]) rfl (PParse.no HN.out ?_)
    exact res_adds HB.out P7.out.adds _ _ _
  · have h1 : ¬ (244 : Int) < 2 * (N : Int) + (T : Int) := by omega
    go_wp2_with fail
    clear h1
    have HG := hid (show 2 * M.pN bs + M.pT bs ≤ 244 by rw [HD.out.2.2.1, HD.out.2.2.2.1]; omega)
    go_loopw [8, 9, 10] (fun wv sv iv wr => ∃ (k bn : Nat) (cs : List (List UInt8)), k ≤ N ∧ bn ≤ T ∧ iv = .int .i64 (k : Int) ∧ wv = .int .i64 (bn : Int) ∧ Hid (M.pCut bs k = some (cs, bn) ∧ cs.length = k ∧ wr.ownsRow 0 3 1 sv k (cs.map (fun c => IV c.length)) ∧ (∀ j, sv.ownBlock = some j → B + 2 < j) ∧ Ps w wr B (bs.drop (8 + 2 * k)) (no : Int) (kd.toNat : Int) (.slice none 0 0))) (fun _ _ iv _ => N - (intOf iv).toNat)
    case atStart => exact ⟨0, 0, [], Nat.zero_le _, Nat.zero_le _, rfl, rfl, rfl, rfl, World.ownsRow_nil _ _ _ _, fun _ c => (by cases c), P7.out⟩
    case round =>
      obtain ⟨k, bn, cs, hk, hbn, rfl, rfl, HI⟩ := hrel
      by_cases hlt : k < N
      · obtain ⟨en, hen⟩ : ∃ en, M.unfix ((bs.drop (8 + 2 * k)).take 2) = en := ⟨_, rfl⟩
        have hen2 : M.unfix (((M.pEs bs).drop (2 * k)).take 2) = en := by rw [M.es_take (by rw [HD.out.2.2.1]; exact hlt) (by have := HG.out; omega)]; exact hen
        have l2 : 2 ≤ (bs.drop (8 + 2 * k)).length := by rw [List.length_drop, HD.out.2.2.2.2.1]; omega
        have he16 : en ≤ 65535 := by have := (M.fix_unfix 2 ((bs.drop (8 + 2 * k)).take 2) (by rw [List.length_take]; omega)).2; rw [hen] at this; omega
        have HX := hid (rfixed_put 2 2 en (by decide) l2 hen HI.out.2.2.2.2.rd)
        have HE := hid hen2
        have HT := hid HD.out.2.2.2.1
        clear hen hen2 l2
        by_cases hb1 : en < bn
        · have HN := hid (show M.readP bs = none from M.read_none HD.out.2.2.2.2.1 (by
            have q := M.cutK_bad HI.out.1 (.inl (by rw [HE.out]; exact hb1))
            exact M.cutK_none' q (by rw [HD.out.2.2.1]; omega)))
          have hb1' : (en : Int) < (bn : Int) := by omega
          go_upto_region 18 with (go_at_call 33; refine HX.out.mono ?_; rintro e w3 ⟨rfl, hr, hT⟩; have P3 := hid (HI.out.2.2.2.2.reader hr hT); clear hr hT)
          obtain ⟨⟨r0, r1, r2⟩, s0, s1, s2⟩ := P3.out.res
          go_wp2_with fail
          refine bodyPost_ret (v := .tuple #[.agg #[.int .i64 0, .int .u8 0, .slice none 0 0], .bool false]) (by simp [results, Tryd.results16, go_sem, r0, r1, r2]) rfl (PParse.no HN.out ?_)
          exact res_adds HB.out P3.out.adds _ _ _
        · have hb1' : decide ((en : Int) < (bn : Int)) = false := by simp; omega
          by_cases hb2 : T < en
          · have HN := hid (show M.readP bs = none from M.read_none HD.out.2.2.2.2.1 (by
              have q := M.cutK_bad HI.out.1 (.inr (by rw [HE.out, HT.out]; exact hb2))
              exact M.cutK_none' q (by rw [HD.out.2.2.1]; omega)))
            have hb2' : decide ((T : Int) < (en : Int)) = true := by simp; omega
            go_upto_region 18 with (go_at_call 33; refine HX.out.mono ?_; rintro e w3 ⟨rfl, hr, hT⟩; have P3 := hid (HI.out.2.2.2.2.reader hr hT); clear hr hT)
            obtain ⟨⟨r0, r1, r2⟩, s0, s1, s2⟩ := P3.out.res
            go_wp2_with fail
            refine bodyPost_ret (v := .tuple #[.agg #[.int .i64 0, .int .u8 0, .slice none 0 0], .bool false]) (by simp [results, Tryd.results16, go_sem, r0, r1, r2]) rfl (PParse.no HN.out ?_)
            exact res_adds HB.out P3.out.adds _ _ _
          · have hb2' : decide ((T : Int) < (en : Int)) = false := by simp; omega
            obtain ⟨d, hd⟩ : ∃ d, d = en - bn := ⟨_, rfl⟩
            have hsub : (en : Int) - (bn : Int) = (d : Int) := by omega
            have hcl : (((M.pAll bs).drop bn).take (en - bn)).length = d := by
              unfold M.pAll
              rw [List.length_take, List.length_drop, List.length_drop, List.length_take, List.length_drop, HD.out.2.2.2.2.1, HD.out.2.2.1]
              omega
            have HK := hid (show M.pCut bs (k + 1) = some (cs ++ [((M.pAll bs).drop bn).take (en - bn)], en) by
              have q := M.cutK_more HI.out.1 (by rw [HE.out, HT.out]; show ¬ (en < bn ∨ T < en); omega)
              rw [HE.out] at q
              exact q)
            have HCl := hid hcl
            clear hd hcl
            go_wp2_with (first
              | (go_at_call 33; refine HX.out.mono ?_; rintro e w3 ⟨rfl, hr, hT⟩; have P3 := hid (HI.out.2.2.2.2.reader hr hT)
                 have HA3 := hid (fun o => show (w3.alloc o).ownsRow 0 3 1 u9 k (cs.map (fun c => IV c.length)) from row_touch (row_touch HI.out.2.2.1 hT (fun j hj c => by have := HI.out.2.2.2.1 j hj; simp only [Own1, Value.pointer.injEq, Option.some.injEq, Addr.mk.injEq] at c; omega)) ((Touch.refl _ w3).alloc o) (fun _ _ => id))
                 clear hr hT)
              | (at_builtin; refine append_i1 rfl _ _ rfl u9 k (cs.map (fun c => IV c.length)) rfl (HA3.out _) w3.heap.size (.int .i64 (d : Int)) rfl (cellOf (heap_alloc_new w3 _) 0) rfl (by omega) ?_; intro v5 w5 G5; have HG5 := hid G5; clear G5))
            go_roundw
            case rel =>
              have hw3 : B + 2 < w3.heap.size := lt_of_heap P3.out.pg
              refine ⟨k + 1, en, cs ++ [((M.pAll bs).drop bn).take (en - bn)], by omega, by omega, by go_num, by first | rfl | go_num, HK.out, by rw [List.length_append, HI.out.2.1]; rfl, ?_, ?_, ?_⟩
              · rw [List.map_append]
                show w5.ownsRow 0 3 1 v5 (k + 1) (cs.map (fun c => IV c.length) ++ [.int .i64 (((((M.pAll bs).drop bn).take (en - bn)).length : Nat) : Int)])
                rw [HCl.out]
                exact HG5.out.1
              · intro j hj
                rcases HG5.out.2.2 with c | c
                · exact HI.out.2.2.2.1 j (by rw [← c]; exact hj)
                · rw [c] at hj; cases hj; simp; omega
              · have q := (P3.out.add ((Touch.refl _ w3).alloc _)).up HG5.out.touch (fun j c => HI.out.2.2.2.1 j c)
                rw [List.drop_drop, show 8 + 2 * k + 2 = 8 + 2 * (k + 1) by omega] at q
                exact q
            case measure => simp [intOf]; omega
      · obtain rfl : N = k := by omega
        by_cases hbt : bn = T
        · subst hbt
          have HQ := hid (M.cut_cuts HD.out.2.2.2.2.1 HG.out (k := N) (by rw [HD.out.2.2.1]; exact Nat.le_refl _) HI.out.1)
          have hbt' : ((bn : Int) != (bn : Int)) = false := by simp
          have HL0 := hid (show L2 w wr B ((bs.drop (8 + 2 * N)).drop (cs.take 0).flatten.length) (no : Int) (kd.toNat : Int) (.slice none 0 0) [] u9 N (cs.map (fun c => IV c.length)) from ⟨HI.out.2.2.2.2, Fresh.nil _ _, HI.out.2.2.1, HI.out.2.2.2.1⟩)
          have HP1 := hid HI.out.1
          clear HI
          go_wp2_with fail
          clear hbt'
          go_loopw [12] (fun iv wz => ∃ (q : Nat) (v : Value) (ts : List Part), q ≤ N ∧ iv = .int .i64 (q : Int) ∧ Hid (ts.map (·.bs) = cs.take q ∧ L2 w wz B ((bs.drop (8 + 2 * N)).drop (cs.take q).flatten.length) (no : Int) (kd.toNat : Int) v ts u9 N (cs.map (fun c => IV c.length)))) (fun iv _ => N - (intOf iv).toNat)
          case atStart => exact ⟨0, .slice none 0 0, [], Nat.zero_le _, rfl, rfl, HL0.out⟩
          case round =>
            obtain ⟨q, v, ts, hq, rfl, HJ⟩ := hrel
            by_cases hqn : q < N
            · obtain ⟨c, hc⟩ : ∃ c, cs[q]? = some c := ⟨cs[q]'(by rw [HQ.out.n]; exact hqn), List.getElem?_eq_getElem _⟩
              obtain ⟨l, hl⟩ : ∃ l, l = (bs.drop (8 + 2 * N)).drop (cs.take q).flatten.length := ⟨_, rfl⟩
              obtain ⟨sz, hsz⟩ : ∃ sz, sz = c.length := ⟨_, rfl⟩
              have hfl : cs.flatten = (bs.drop (8 + 2 * N)).take cs.flatten.length := by
                have q1 := HQ.out.all
                have q2 := M.all_take HG.out
                rw [HD.out.2.2.1, HD.out.2.2.2.1] at q2
                rw [HQ.out.at_, ← q2]
                exact q1
              have hlc : l.take sz = c := by rw [hl, hsz]; exact M.cell_read hfl hc
              have hnx : l.drop sz = (bs.drop (8 + 2 * N)).drop (cs.take (q + 1)).flatten.length := by rw [hl, List.drop_drop, M.flat_nx hc, List.length_append, hsz]
              obtain ⟨sg, sc, hsv, hcell⟩ := own_is HJ.out.2.sz (q := q) (u := IV sz) (by rw [List.getElem?_map, hc, hsz]; rfl)
              have HCl := hid (show (l.take sz).length = sz by rw [hlc, hsz])
              have HSz := hid (show sz ≤ l.length by have h1 := HCl.out; rw [List.length_take] at h1; omega)
              have HNx := hid (And.intro (show cs.take q ++ [l.take sz] = cs.take (q + 1) by rw [List.take_add_one, hc, hlc]; rfl) hnx)
              have hszb : sz ≤ 1000 := by
                have h1 : l.length ≤ 256 := by rw [hl, List.length_drop, List.length_drop, HD.out.2.2.2.2.1]; omega
                have h2 := HSz.out
                omega
              have HTs := hid (And.intro HJ.out.1 (show ts.length ≤ 255 by have h1 := congrArg List.length HJ.out.1; rw [List.length_map, List.length_take] at h1; omega))
              rw [← hl, hsv] at HJ
              have HL := hid HJ.out.2
              have HSv := hid hsv
              have hsg : B + 2 < sg := HL.out.hi sg rfl
              have HS0 := hid (show S26 B (no : Int) (kd.toNat : Int) v sg q (sz : Int) wr.drew from HL.out.s hcell)
              have HL := hid (HL.out.add (Touch.refl _ wr).drew)
              have hqn' : (q : Int) < (N : Int) := by omega
              clear hl hsz hfl hlc hnx hc hcell HJ
              subst hsv
              go_upto_region 26 with fail
              refine E_begin (S := S26 B (no : Int) (kd.toNat : Int) v sg q (sz : Int)) (X := 13) (by kernel_rfl) ?_
              have hS : (S26 B (no : Int) (kd.toNat : Int) v sg q (sz : Int)) wr.drew := HS0.out
              generalize wr.drew = wD at HL HS0 hS ⊢
              refine E_put (i := 0) 86 (v := .pointer (some ⟨B + 2, 2, none⟩)) rfl rfl (by kernel_rfl) (by kernel_rfl) (by kernel_rfl) (by kernel_rfl) (fun _ _ _ h => h) (Or.inl ⟨by rfl, fun w' hw' => ?_⟩) hS ?_
              · go_simp
              simp only [Act.put, List.setIfInBounds_toArray, List.set_cons_zero, List.set_cons_succ]
              refine E_put (i := 1) 87 (v := v) rfl rfl (by kernel_rfl) (by kernel_rfl) (by kernel_rfl) (by kernel_rfl) (fun _ _ _ h => h) (Or.inl ⟨by rfl, fun w' hw' => ?_⟩) hS ?_
              · have c : w'.cell? ⟨B + 2, 2, none⟩ = some v := by (have q := cellOf hw'.1 2; simpa using q)
                go_simp
              simp only [Act.put, List.setIfInBounds_toArray, List.set_cons_zero, List.set_cons_succ]
              refine E_put (i := 3) 89 (v := Ptr (B + 1)) rfl rfl (by kernel_rfl) (by kernel_rfl) (by kernel_rfl) (by kernel_rfl) (fun _ _ _ h => h) (Or.inl ⟨by rfl, fun w' hw' => ?_⟩) hS ?_
              · go_simp
              simp only [Act.put, List.setIfInBounds_toArray, List.set_cons_zero, List.set_cons_succ]
              refine E_put (i := 4) 90 (v := .slice (some ⟨sg, 0, none⟩) N sc) rfl rfl (by kernel_rfl) (by kernel_rfl) (by kernel_rfl) (by kernel_rfl) (fun _ _ _ h => h) (Or.inl ⟨by rfl, fun w' hw' => ?_⟩) hS ?_
              · go_simp
              simp only [Act.put, List.setIfInBounds_toArray, List.set_cons_zero, List.set_cons_succ]
              refine E_put (i := 5) 91 (v := .int .i64 (q : Int)) rfl rfl (by kernel_rfl) (by kernel_rfl) (by kernel_rfl) (by kernel_rfl) (fun _ _ _ h => h) (Or.inl ⟨by rfl, fun w' hw' => ?_⟩) hS ?_
              · go_simp
              simp only [Act.put, List.setIfInBounds_toArray, List.set_cons_zero, List.set_cons_succ]
              refine E_put (i := 6) 92 (v := .pointer (some ⟨sg, q, none⟩)) rfl rfl (by kernel_rfl) (by kernel_rfl) (by kernel_rfl) (by kernel_rfl) (fun _ _ _ h => h) (Or.inl ⟨by rfl, fun w' hw' => ?_⟩) hS ?_
              · go_simp
              simp only [Act.put, List.setIfInBounds_toArray, List.set_cons_zero, List.set_cons_succ]
              refine E_put (i := 7) 93 (v := .int .i64 (sz : Int)) rfl rfl (by kernel_rfl) (by kernel_rfl) (by kernel_rfl) (by kernel_rfl) (fun _ _ _ h => h) (Or.inl ⟨by rfl, fun w' hw' => ?_⟩) hS ?_
              · have c := hw'.2; go_simp
              simp only [Act.put, List.setIfInBounds_toArray, List.set_cons_zero, List.set_cons_succ]
              refine E_all (rs := [2, 8]) (by kernel_rfl) (by simp) (fun j hj => ?_)
              rcases List.mem_cons.1 hj with rfl | hj
              · refine EO_value (i := 2) 88 (v := .slice (some ⟨wD.heap.size, 0, none⟩) 0 0) (w' := wD.alloc (.cells #[] 5)) rfl rfl (by rfl) (by go_simp) (HS0.out.touch ((Touch.refl (fun _ => False) wD).alloc _) id id) ?_
                simp only [Act.put, List.setIfInBounds_toArray, List.set_cons_zero, List.set_cons_succ]
                refine E_call (i := 8) 94 34 #[.pointer (some ⟨B + 1, 0, none⟩), .int .i64 (sz : Int)] (by kernel_rfl) rfl rfl (by rfl) (by go_simp) (rtake_put sz (HL.out.add ((Touch.refl _ wD).alloc _)).ps.rd HSz.out) ?_
                rintro e wX ⟨xa, xc, rfl, H3⟩
                have MX := hid (M2.a HL.out.size H3.out)
                clear H3
                refine ⟨_, rfl, fun _ => MX.out.s HS0.out hsg, ?_⟩
                simp only [Act.put, List.setIfInBounds_toArray, List.set_cons_zero, List.set_cons_succ]
                clear hS
                refine E_do (i := 9) (some 95) (by kernel_rfl) rfl rfl rfl (fun K hK => ?_)
                refine wp_append_m (.tmp 88) (.tmp 94) rfl (wD.heap.size) (.slice (some ⟨wD.heap.size, 0, none⟩) 0 0) 0 [] rfl MX.out.row xa (l.take sz) sz xc HCl.out rfl MX.out.non MX.out.at_ (by omega) MX.out.lt ?_
                intro v1 wY h1 h2
                rw [Nat.zero_add] at h1
                obtain ⟨ya, yc, rfl, epv, hN⟩ := MX.out.next HL.out.size HCl.out h1 h2
                have NY := hid hN
                have EP := hid epv
                refine hK (.slice ya sz yc) _ (fun _ => NY.out.s HS0.out hsg) ?_
                clear hK K h1 h2 hN epv MX
                simp only [Act.put, List.setIfInBounds_toArray, List.set_cons_zero, List.set_cons_succ]
                refine E_do (i := 10) (some 96) (by kernel_rfl) rfl rfl rfl (fun K hK => ?_)
                go_simp
                refine hK (.slice (some ⟨wY.heap.size, 0, none⟩) 1 1) _ (fun _ => (NY.out.s HS0.out hsg).touch ((Touch.refl (fun _ => False) wY).alloc _) id id) ?_
                clear hK K
                simp only [Act.put, List.setIfInBounds_toArray, List.set_cons_zero, List.set_cons_succ]
                refine E_do (i := 11) (some 97) (by kernel_rfl) rfl rfl rfl (fun K hK => ?_)
                refine wp_append_b1 (.tmp 87) (.tmp 96) rfl v ts.length (ts.map PV) rfl (((HL.out.take NY.out.rd NY.out.T).add ((Touch.refl _ wY).alloc _)).fr.rows) wY.heap.size (.slice ya sz yc) rfl (cellOf (heap_alloc_new wY _) 0) rfl (by have := HTs.out; omega) ?_
                intro v5 w5 G5
                obtain ⟨fa, fc, e5, _⟩ := own_cq G5.1
                subst e5
                have HZ5 := hid (HL.out.s5 NY.out ((Touch.refl _ wY).alloc _) G5 HS0.out)
                have HL5 := hid (HL.out.more NY.out ((Touch.refl _ wY).alloc _) (show Grew _ w5 22 v (.slice fa (ts.length + 1) fc) (ts.length + 1) (ts.map PV ++ [PV ⟨ya, l.take sz, yc⟩]) by rw [EP.out]; exact G5))
                clear G5
                refine hK (.slice fa (ts.length + 1) fc) _ (fun _ => HZ5.out) ?_
                clear hK K
                simp only [Act.put, List.setIfInBounds_toArray, List.set_cons_zero, List.set_cons_succ]
                refine E_put (i := 12) 98 (v := .pointer (some ⟨B + 2, 2, none⟩)) rfl rfl (by kernel_rfl) (by kernel_rfl) (by kernel_rfl) (by kernel_rfl) (fun _ _ _ h => h) (Or.inl ⟨by rfl, fun w' hw' => ?_⟩) HZ5.out ?_
                · go_simp
                simp only [Act.put, List.setIfInBounds_toArray, List.set_cons_zero, List.set_cons_succ]
                refine E_do (i := 13) none (by kernel_rfl) rfl rfl rfl (fun K hK => ?_)
                have c2 : w5.cell? ⟨B + 2, 2, none⟩ = some v := by (have q := cellOf HZ5.out.1 2; simpa using q)
                have f2 : w5.frozen? ⟨B + 2, 2, none⟩ = false := frozen_of_row w5 _ 2 _ 47 HZ5.out.1
                go_simp
                refine hK undef _ (fun h => absurd rfl h) ?_
                clear hK K c2 f2
                simp only [Act.put]
                refine E_done (by kernel_rfl) ?_ _
                clear HZ5 NY EP
                generalize w5.setCell ⟨B + 2, 2, none⟩ (.slice fa (ts.length + 1) fc) = w6 at HL5 ⊢
                go_wp2_with fail
                go_roundw
                case rel => exact ⟨q + 1, .slice fa (ts.length + 1) fc, ts ++ [⟨ya, l.take sz, yc⟩], by omega, by go_num, by rw [List.map_append, HTs.out.1, ← HNx.out.1]; rfl, by have q := HL5.out; rw [HNx.out.2] at q; exact q⟩
                case measure => simp [intOf]; omega
              · obtain rfl := List.mem_singleton.1 hj
                refine EO_call (i := 8) 94 34 #[.pointer (some ⟨B + 1, 0, none⟩), .int .i64 (sz : Int)] rfl rfl (by rfl) (by go_simp) (rtake_put sz HL.out.ps.rd HSz.out) ?_
                rintro e wV ⟨xa, xc, rfl, H3⟩
                have MX := hid (M2.b H3.out)
                have HSV := hid (HS0.out.touch H3.out.2.2.2 (fun c => by have := own1_eq c; omega) (fun c => by have := own1_eq c; omega))
                clear H3
                refine ⟨_, rfl, HSV.out, ?_⟩
                simp only [Act.put, List.setIfInBounds_toArray, List.set_cons_zero, List.set_cons_succ]
                refine E_do (i := 2) (some 88) (by kernel_rfl) rfl rfl rfl (fun K hK => ?_)
                go_simp
                refine hK (.slice (some ⟨wV.heap.size, 0, none⟩) 0 0) _ (fun _ => HSV.out.touch ((Touch.refl (fun _ => False) wV).alloc _) id id) ?_
                clear hK K
                simp only [Act.put, List.setIfInBounds_toArray, List.set_cons_zero, List.set_cons_succ]
                clear hS
                refine E_do (i := 9) (some 95) (by kernel_rfl) rfl rfl rfl (fun K hK => ?_)
                refine wp_append_m (.tmp 88) (.tmp 94) rfl (wV.heap.size) (.slice (some ⟨wV.heap.size, 0, none⟩) 0 0) 0 [] rfl MX.out.row xa (l.take sz) sz xc HCl.out rfl MX.out.non MX.out.at_ (by omega) MX.out.lt ?_
                intro v1 wY h1 h2
                rw [Nat.zero_add] at h1
                obtain ⟨ya, yc, rfl, epv, hN⟩ := MX.out.next HL.out.size HCl.out h1 h2
                have NY := hid hN
                have EP := hid epv
                refine hK (.slice ya sz yc) _ (fun _ => NY.out.s HS0.out hsg) ?_
                clear hK K h1 h2 hN epv MX
                simp only [Act.put, List.setIfInBounds_toArray, List.set_cons_zero, List.set_cons_succ]
                refine E_do (i := 10) (some 96) (by kernel_rfl) rfl rfl rfl (fun K hK => ?_)
                go_simp
                refine hK (.slice (some ⟨wY.heap.size, 0, none⟩) 1 1) _ (fun _ => (NY.out.s HS0.out hsg).touch ((Touch.refl (fun _ => False) wY).alloc _) id id) ?_
                clear hK K
                simp only [Act.put, List.setIfInBounds_toArray, List.set_cons_zero, List.set_cons_succ]
                refine E_do (i := 11) (some 97) (by kernel_rfl) rfl rfl rfl (fun K hK => ?_)
                refine wp_append_b1 (.tmp 87) (.tmp 96) rfl v ts.length (ts.map PV) rfl (((HL.out.take NY.out.rd NY.out.T).add ((Touch.refl _ wY).alloc _)).fr.rows) wY.heap.size (.slice ya sz yc) rfl (cellOf (heap_alloc_new wY _) 0) rfl (by have := HTs.out; omega) ?_
                intro v5 w5 G5
                obtain ⟨fa, fc, e5, _⟩ := own_cq G5.1
                subst e5
                have HZ5 := hid (HL.out.s5 NY.out ((Touch.refl _ wY).alloc _) G5 HS0.out)
                have HL5 := hid (HL.out.more NY.out ((Touch.refl _ wY).alloc _) (show Grew _ w5 22 v (.slice fa (ts.length + 1) fc) (ts.length + 1) (ts.map PV ++ [PV ⟨ya, l.take sz, yc⟩]) by rw [EP.out]; exact G5))
                clear G5
                refine hK (.slice fa (ts.length + 1) fc) _ (fun _ => HZ5.out) ?_
                clear hK K
                simp only [Act.put, List.setIfInBounds_toArray, List.set_cons_zero, List.set_cons_succ]
                refine E_put (i := 12) 98 (v := .pointer (some ⟨B + 2, 2, none⟩)) rfl rfl (by kernel_rfl) (by kernel_rfl) (by kernel_rfl) (by kernel_rfl) (fun _ _ _ h => h) (Or.inl ⟨by rfl, fun w' hw' => ?_⟩) HZ5.out ?_
                · go_simp
                simp only [Act.put, List.setIfInBounds_toArray, List.set_cons_zero, List.set_cons_succ]
                refine E_do (i := 13) none (by kernel_rfl) rfl rfl rfl (fun K hK => ?_)
                have c2 : w5.cell? ⟨B + 2, 2, none⟩ = some v := by (have q := cellOf HZ5.out.1 2; simpa using q)
                have f2 : w5.frozen? ⟨B + 2, 2, none⟩ = false := frozen_of_row w5 _ 2 _ 47 HZ5.out.1
                go_simp
                refine hK undef _ (fun h => absurd rfl h) ?_
                clear hK K c2 f2
                simp only [Act.put]
                refine E_done (by kernel_rfl) ?_ _
                clear HZ5 NY EP
                generalize w5.setCell ⟨B + 2, 2, none⟩ (.slice fa (ts.length + 1) fc) = w6 at HL5 ⊢
                go_wp2_with fail
                go_roundw
                case rel => exact ⟨q + 1, .slice fa (ts.length + 1) fc, ts ++ [⟨ya, l.take sz, yc⟩], by omega, by go_num, by rw [List.map_append, HTs.out.1, ← HNx.out.1]; rfl, by have q := HL5.out; rw [HNx.out.2] at q; exact q⟩
                case measure => simp [intOf]; omega
            · obtain rfl : N = q := by omega
              obtain ⟨va, vc, hva, hvc, hvn, hvq⟩ := own_cq HJ.out.2.fr.rows
              have hts : ts.map (·.bs) = cs := by rw [HJ.out.1, List.take_of_length_le (by rw [HQ.out.n]; exact Nat.le_refl _)]
              have htl : ts.length = N := by rw [← List.length_map (f := (·.bs)), hts, HQ.out.n]
              rw [htl] at hva hvc
              subst hva
              have HRL := hid (M.read_last HD.out.2.2.2.2.1 HD.out.2.2.2.2.2.1 HD.out.2.2.2.2.2.2 HG.out (cs := cs) (by rw [HD.out.2.2.1, HD.out.2.2.2.1]; exact HP1.out))
              rw [HD.out.1, HD.out.2.1] at HRL
              have HGQ := hid (show GQ wr (fun k => B + 3 ≤ k) ⟨va, vc, ts⟩ from ⟨hvq.mono (fun k _ c => HJ.out.2.fr.own k c), hvn, fun x hx => (HJ.out.2.fr.data x hx).mono (fun _ _ c => c.1)⟩)
              have HPs := hid HJ.out.2.ps
              have HT2 := hid (And.intro (show M.taken (ts.map (·.bs)) ≤ 244 by rw [hts]; exact HRL.out.1.room) htl)
              have HTc := hid (And.intro hts hvc)
              obtain ⟨x, hx⟩ : ∃ x, M.pfirst ⟨no, kd, cs⟩ = x := ⟨_, rfl⟩
              obtain ⟨y, hy⟩ : ∃ y, bs.take 252 = y := ⟨_, rfl⟩
              rw [hx, hy] at HRL
              have HXY := hid (And.intro (show M.pfirst ⟨no, kd, ts.map (·.bs)⟩ = x by rw [hts]; exact hx) hy)
              have HR1 := hid (fun (w' : World) => show (Instr.sliceAt 22 (.slice (some ⟨b, o, none⟩) 256 cap) none (some (.int .i64 252)) none).run Tryd.prog w' = .ok (.slice (some ⟨b, o, none⟩) 252 cap) w' from run_pre _ 256 cap 252 (by omega) w')
              have HR2 := hid (fun (w' : World) (hw : Adds wr w') => show (convert 22 9 (.slice (some ⟨b, o, none⟩) 252 cap)).run Tryd.prog w' = .ok (.string ⟨y.toArray⟩) w' by
                have q := conv_at w' (some ⟨b, o, none⟩) (bs.take 252) cap ((HAt.out.pre 252).adds (HPs.out.adds.trans hw))
                rw [List.length_take, HD.out.2.2.2.2.1, HXY.out.2] at q
                exact q)
              clear HJ hvn hvq hts htl hvc hx hy HQ HL0 HP1
              by_cases he : x = y
              · have hss : (x == y) = true := by rw [he]; simp
                have HRD := hid (show M.readP bs = some ⟨no, kd, cs⟩ by rw [HRL.out.2, if_pos he])
                clear he
                go_upto_region 27 with fail
                refine H_begin (S := fun (w' : World) => Adds wr w') (by kernel_rfl) ?_
                have hS : (fun (w' : World) => Adds wr w') wr.drew := (Touch.refl _ wr).drew
                refine H_put (i := 0) 99 (v := .agg #[.int .i64 (no : Int), .int .u8 (kd.toNat : Int), .slice va N vc]) rfl rfl (by kernel_rfl) (by kernel_rfl) (by kernel_rfl) (fun _ _ _ h => h) (Or.inl ⟨by rfl, fun w' hw' => ?_⟩) hS ?_
                · obtain ⟨⟨c0, c1, c2⟩, _⟩ := (HPs.out.add hw').cell; go_simp
                simp only [Act.put, List.setIfInBounds_toArray, List.set_cons_zero, List.set_cons_succ]
                refine H_put (i := 4) 103 (v := .slice (some ⟨b, o, none⟩) 256 cap) rfl rfl (by kernel_rfl) (by kernel_rfl) (by kernel_rfl) (fun _ _ _ h => h) (Or.inl ⟨by rfl, fun w' hw' => ?_⟩) hS ?_
                · go_simp
                simp only [Act.put, List.setIfInBounds_toArray, List.set_cons_zero, List.set_cons_succ]
                refine H_put (i := 5) 104 (v := .slice (some ⟨b, o, none⟩) 252 cap) rfl rfl (by kernel_rfl) (by kernel_rfl) (by kernel_rfl) (fun _ _ _ h => h) (Or.inl ⟨by rfl, fun w' hw' => ?_⟩) hS ?_
                · have q1 := HR1.out w'; go_simp
                simp only [Act.put, List.setIfInBounds_toArray, List.set_cons_zero, List.set_cons_succ]
                refine H_put (i := 6) 105 (v := .string ⟨y.toArray⟩) rfl rfl (by kernel_rfl) (by kernel_rfl) (by kernel_rfl) (fun _ _ _ h => h) (Or.inl ⟨by rfl, fun w' hw' => ?_⟩) hS ?_
                · have q1 := HR2.out w' hw'; go_simp
                simp only [Act.put, List.setIfInBounds_toArray, List.set_cons_zero, List.set_cons_succ]
                refine H_call (i := 1) 100 21 #[.agg #[.int .i64 (no : Int), .int .u8 (kd.toNat : Int), .slice va N vc]] (by kernel_rfl) rfl rfl (by rfl) (by go_simp) (rbytes_any no kd va ts N vc HT2.out.2 wr.drew (HGQ.out.adds (Touch.refl _ wr).drew) (by omega) HT2.out.1) ?_
                rintro e wC ⟨ra, rc, rfl, H3⟩
                obtain ⟨_, _, e3, hrc, _, hrq⟩ := own_cq H3.out.1
                cases e3
                have HRA := hid (show At wC ra (M.pbytes ⟨no, kd, ts.map (·.bs)⟩) from hrq.at)
                have A3 := hid (show Adds wr wC from Touch.trans ((Touch.refl _ wr).drew) H3.out.2)
                clear hrq H3
                have HR3 := hid (fun (w' : World) => show (Instr.sliceAt 22 (.slice ra 256 rc) none (some (.int .i64 252)) none).run Tryd.prog w' = .ok (.slice ra 252 rc) w' from run_pre ra 256 rc 252 (by omega) w')
                have HR4 := hid (fun (w' : World) (hw : Adds wC w') => show (convert 22 9 (.slice ra 252 rc)).run Tryd.prog w' = .ok (.string ⟨x.toArray⟩) w' by
                  have q := conv_at w' ra ((M.pbytes ⟨no, kd, ts.map (·.bs)⟩).take 252) rc ((HRA.out.pre 252).adds hw)
                  rw [M.take_pbytes HT2.out.1, M.len_pfirst HT2.out.1, HXY.out.1] at q
                  exact q)
                refine ⟨_, fun (w' : World) => Adds wC w', rfl, Touch.refl _ _, fun w' h => A3.out.trans h, ?_⟩
                clear hS
                have hS : (fun (w' : World) => Adds wC w') wC := Touch.refl _ _
                simp only [Act.put, List.setIfInBounds_toArray, List.set_cons_zero, List.set_cons_succ]
                refine H_put (i := 2) 101 (v := .slice ra 252 rc) rfl rfl (by kernel_rfl) (by kernel_rfl) (by kernel_rfl) (fun _ _ _ h => h) (Or.inl ⟨by rfl, fun w' hw' => ?_⟩) hS ?_
                · have q1 := HR3.out w'; go_simp
                simp only [Act.put, List.setIfInBounds_toArray, List.set_cons_zero, List.set_cons_succ]
                refine H_put (i := 3) 102 (v := .string ⟨x.toArray⟩) rfl rfl (by kernel_rfl) (by kernel_rfl) (by kernel_rfl) (fun _ _ _ h => h) (Or.inl ⟨by rfl, fun w' hw' => ?_⟩) hS ?_
                · have q1 := HR4.out w' hw'; go_simp
                simp only [Act.put, List.setIfInBounds_toArray, List.set_cons_zero, List.set_cons_succ]
                refine H_put (i := 7) 106 (v := .bool false) rfl rfl (by kernel_rfl) (by kernel_rfl) (by kernel_rfl) (fun _ _ _ h => h) (Or.inl ⟨by rfl, fun w' hw' => ?_⟩) hS ?_
                · go_simp
                simp only [Act.put, List.setIfInBounds_toArray, List.set_cons_zero, List.set_cons_succ]
                refine wpAnyH_done (by kernel_rfl) ?_ _
                have P9 := hid (HPs.out.add A3.out)
                have G9 := hid (HGQ.out.adds A3.out)
                obtain ⟨⟨c0, c1, c2⟩, f0, f1, f2⟩ := P9.out.cell
                obtain ⟨⟨r0, r1, r2⟩, s0, s1, s2⟩ := P9.out.res
                go_wp2_with fail
                refine bodyPost_ret (v := .tuple #[.agg #[.int .i64 (no : Int), .int .u8 (kd.toNat : Int), .slice va N vc], .bool true]) (by simp [results, Tryd.results16, go_sem, r0, r1, r2]) rfl ?_
                obtain ⟨e1, e2, e3, _⟩ := M.some_all HRD.out
                refine ⟨va, vc, ts, by rw [e1, e2, HRD.out, HT2.out.2]; rfl, by rw [e3]; exact HTc.out.1, ?_, ?_, by rw [HT2.out.2]; exact HTc.out.2⟩
                · exact res_gq G9.out _ _ _
                · exact res_adds HB.out P9.out.adds _ _ _
              · have hss : (x == y) = false := by simpa using he
                have HN := hid (show M.readP bs = none by rw [HRL.out.2, if_neg he])
                clear he
                go_upto_region 27 with fail
                refine H_begin (S := fun (w' : World) => Adds wr w') (by kernel_rfl) ?_
                have hS : (fun (w' : World) => Adds wr w') wr.drew := (Touch.refl _ wr).drew
                refine H_put (i := 0) 99 (v := .agg #[.int .i64 (no : Int), .int .u8 (kd.toNat : Int), .slice va N vc]) rfl rfl (by kernel_rfl) (by kernel_rfl) (by kernel_rfl) (fun _ _ _ h => h) (Or.inl ⟨by rfl, fun w' hw' => ?_⟩) hS ?_
                · obtain ⟨⟨c0, c1, c2⟩, _⟩ := (HPs.out.add hw').cell; go_simp
                simp only [Act.put, List.setIfInBounds_toArray, List.set_cons_zero, List.set_cons_succ]
                refine H_put (i := 4) 103 (v := .slice (some ⟨b, o, none⟩) 256 cap) rfl rfl (by kernel_rfl) (by kernel_rfl) (by kernel_rfl) (fun _ _ _ h => h) (Or.inl ⟨by rfl, fun w' hw' => ?_⟩) hS ?_
                · go_simp
                simp only [Act.put, List.setIfInBounds_toArray, List.set_cons_zero, List.set_cons_succ]
                refine H_put (i := 5) 104 (v := .slice (some ⟨b, o, none⟩) 252 cap) rfl rfl (by kernel_rfl) (by kernel_rfl) (by kernel_rfl) (fun _ _ _ h => h) (Or.inl ⟨by rfl, fun w' hw' => ?_⟩) hS ?_
                · have q1 := HR1.out w'; go_simp
                simp only [Act.put, List.setIfInBounds_toArray, List.set_cons_zero, List.set_cons_succ]
                refine H_put (i := 6) 105 (v := .string ⟨y.toArray⟩) rfl rfl (by kernel_rfl) (by kernel_rfl) (by kernel_rfl) (fun _ _ _ h => h) (Or.inl ⟨by rfl, fun w' hw' => ?_⟩) hS ?_
                · have q1 := HR2.out w' hw'; go_simp
                simp only [Act.put, List.setIfInBounds_toArray, List.set_cons_zero, List.set_cons_succ]
                refine H_call (i := 1) 100 21 #[.agg #[.int .i64 (no : Int), .int .u8 (kd.toNat : Int), .slice va N vc]] (by kernel_rfl) rfl rfl (by rfl) (by go_simp) (rbytes_any no kd va ts N vc HT2.out.2 wr.drew (HGQ.out.adds (Touch.refl _ wr).drew) (by omega) HT2.out.1) ?_
                rintro e wC ⟨ra, rc, rfl, H3⟩
                obtain ⟨_, _, e3, hrc, _, hrq⟩ := own_cq H3.out.1
                cases e3
                have HRA := hid (show At wC ra (M.pbytes ⟨no, kd, ts.map (·.bs)⟩) from hrq.at)
                have A3 := hid (show Adds wr wC from Touch.trans ((Touch.refl _ wr).drew) H3.out.2)
                clear hrq H3
                have HR3 := hid (fun (w' : World) => show (Instr.sliceAt 22 (.slice ra 256 rc) none (some (.int .i64 252)) none).run Tryd.prog w' = .ok (.slice ra 252 rc) w' from run_pre ra 256 rc 252 (by omega) w')
                have HR4 := hid (fun (w' : World) (hw : Adds wC w') => show (convert 22 9 (.slice ra 252 rc)).run Tryd.prog w' = .ok (.string ⟨x.toArray⟩) w' by
                  have q := conv_at w' ra ((M.pbytes ⟨no, kd, ts.map (·.bs)⟩).take 252) rc ((HRA.out.pre 252).adds hw)
                  rw [M.take_pbytes HT2.out.1, M.len_pfirst HT2.out.1, HXY.out.1] at q
                  exact q)
                refine ⟨_, fun (w' : World) => Adds wC w', rfl, Touch.refl _ _, fun w' h => A3.out.trans h, ?_⟩
                clear hS
                have hS : (fun (w' : World) => Adds wC w') wC := Touch.refl _ _
                simp only [Act.put, List.setIfInBounds_toArray, List.set_cons_zero, List.set_cons_succ]
                refine H_put (i := 2) 101 (v := .slice ra 252 rc) rfl rfl (by kernel_rfl) (by kernel_rfl) (by kernel_rfl) (fun _ _ _ h => h) (Or.inl ⟨by rfl, fun w' hw' => ?_⟩) hS ?_
                · have q1 := HR3.out w'; go_simp
                simp only [Act.put, List.setIfInBounds_toArray, List.set_cons_zero, List.set_cons_succ]
                refine H_put (i := 3) 102 (v := .string ⟨x.toArray⟩) rfl rfl (by kernel_rfl) (by kernel_rfl) (by kernel_rfl) (fun _ _ _ h => h) (Or.inl ⟨by rfl, fun w' hw' => ?_⟩) hS ?_
                · have q1 := HR4.out w' hw'; go_simp
                simp only [Act.put, List.setIfInBounds_toArray, List.set_cons_zero, List.set_cons_succ]
                refine H_put (i := 7) 106 (v := .bool true) rfl rfl (by kernel_rfl) (by kernel_rfl) (by kernel_rfl) (fun _ _ _ h => h) (Or.inl ⟨by rfl, fun w' hw' => ?_⟩) hS ?_
                · go_simp
                simp only [Act.put, List.setIfInBounds_toArray, List.set_cons_zero, List.set_cons_succ]
                refine wpAnyH_done (by kernel_rfl) ?_ _
                have P9 := hid (HPs.out.add A3.out)
                obtain ⟨⟨r0, r1, r2⟩, s0, s1, s2⟩ := P9.out.res
                go_wp2_with fail
                refine bodyPost_ret (v := .tuple #[.agg #[.int .i64 0, .int .u8 0, .slice none 0 0], .bool false]) (by simp [results, Tryd.results16, go_sem, r0, r1, r2]) rfl (PParse.no HN.out ?_)
                exact res_adds HB.out P9.out.adds _ _ _
        · have HN := hid (show M.readP bs = none from M.read_rest HD.out.2.2.2.2.1 (by rw [HD.out.2.2.1]; exact HI.out.1) (by rw [HD.out.2.2.2.1]; exact hbt))
          have hbt' : ((bn : Int) != (T : Int)) = true := by simp; omega
          obtain ⟨⟨r0, r1, r2⟩, s0, s1, s2⟩ := HI.out.2.2.2.2.res
          go_wp2_with fail
          refine bodyPost_ret (v := .tuple #[.agg #[.int .i64 0, .int .u8 0, .slice none 0 0], .bool false]) (by simp [results, Tryd.results16, go_sem, r0, r1, r2]) rfl (PParse.no HN.out ?_)
          exact res_adds HB.out HI.out.2.2.2.2.adds _ _ _
end Go.Proofs.YtidkmamjhpckgaaDoor
