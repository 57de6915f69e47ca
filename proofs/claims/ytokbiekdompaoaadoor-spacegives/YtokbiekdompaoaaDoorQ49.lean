/- SpaceGives. -/
import Derived.Test.YtokbiekdompaoaaDoorQ47
import Derived.Test.YtokbiekdompaoaaDoorQ48
import Derived.Deep.MidRow
import Derived.Deep.CutBlock
import Derived.Deep.DeepCutAuto
import Derived.Deep.CutRange
namespace Go.Proofs.YtokbiekdompaoaaDoor
open Go.RowKit

/-- What the search downwards has found. -/
def Wnt (now : Nat → Bool) (k : Int) (z : Int) : Prop := (z = -1 ∧ ∀ j : Nat, k < j → j < 30 → now j = true) ∨ ∃ m : Nat, z = m ∧ k < m ∧ m < 30 ∧ now m = false ∧ ∀ j : Nat, k < j → j < m → now j = true
/-- How many are taken among the first. -/
def cnt12 (now : Nat → Bool) (n : Nat) : Nat := ((List.range n).filter now).length
set_option maxRecDepth 100000 in
theorem cnt12_more (now : Nat → Bool) (n : Nat) : cnt12 now (n + 1) = if now n then cnt12 now n + 1 else cnt12 now n := by
  unfold cnt12
  rw [List.range_succ, List.filter_append, List.length_append]
  cases h : now n <;> simp [h]
set_option maxRecDepth 100000 in
theorem cnt12_le (now : Nat → Bool) (n : Nat) : cnt12 now n ≤ n := by
  unfold cnt12
  exact Nat.le_trans (List.length_filter_le _ _) (by rw [List.length_range]; exact Nat.le_refl _)
set_option maxRecDepth 100000 in
theorem nums_at12 (now : Nat → Bool) {n : Nat} (hn : n < 30) (h : now n = true) : cnt12 now n < (G.nums 30 now).length ∧ (G.nums 30 now)[cnt12 now n]? = some (n : Int) := by
  have e : List.range 30 = List.range n ++ (n :: List.range' (n + 1) (29 - n)) := by
    rw [List.range_eq_range', List.range_eq_range', show 30 = n + (29 - n + 1) by omega, ← List.range'_append (s := 0) (m := n) (n := 29 - n + 1) (step := 1)]
    congr 1
    rw [List.range'_succ]
    simp
  have e2 : G.nums 30 now = ((List.range n).filter now).map (fun i : Nat => (i : Int)) ++ ((n : Int) :: ((List.range' (n + 1) (29 - n)).filter now).map fun i : Nat => (i : Int)) := by
    unfold G.nums
    rw [e, List.filter_append, List.map_append, List.filter_cons, if_pos h, List.map_cons]
  unfold cnt12
  rw [e2]
  refine ⟨by simp, ?_⟩
  rw [List.getElem?_append_right (by simp)]
  simp
set_option maxRecDepth 100000 in
theorem nums_len12 (now : Nat → Bool) : (G.nums 30 now).length = cnt12 now 30 := by unfold G.nums cnt12; rw [List.length_map]
set_option maxRecDepth 100000 in
theorem wrap29 (z : Int) : ∃ m : Nat, 1 ≤ m ∧ m < 30 ∧ wrap64 (1 + wrap64 ((IntKind.u64.wrap z).tmod 29)) = (m : Int) := by
  have h1 : IntKind.u64.wrap z = z % 18446744073709551616 := IntKind.wrap_u64 z
  have h0 : 0 ≤ z % 18446744073709551616 := Int.emod_nonneg _ (by decide)
  have h2 : z % 18446744073709551616 % 29 < 29 := Int.emod_lt_of_pos _ (by decide)
  have h3 : 0 ≤ z % 18446744073709551616 % 29 := Int.emod_nonneg _ (by decide)
  refine ⟨(1 + z % 18446744073709551616 % 29).toNat, by omega, by omega, ?_⟩
  rw [h1, Int.tmod_eq_emod_of_nonneg h0]
  generalize z % 18446744073709551616 % 29 = q at *
  unfold wrap64
  omega
set_option maxRecDepth 100000 in
set_option maxHeartbeats 8000000 in
theorem gives12 (a : Option Addr) (len cap : Nat) (w : World) (hT : Tab w) (hI : Acts12 w a len) : Calls Tryd.prog 5 #[.slice a len cap] w (Adding (.bool true) w) := by
  have HF := hid (show Calls Tryd.prog 18 #[.int .i64 30] w (PForm w 30) from formatted_any 30 (by decide) (by decide) w hT)
  have HW := hid (fun w' (hA : Adds w w') => works12 w' (hT.adds hA))
  have HIa := hid hI
  have hz30 := zero30
  have hlen := hI.1
  clear hT hI
  go_enter Tryd.func5, Tryd.ntmps5
  go_upto_region 4 with (first
    | (go_at_call 18; refine HF.out.mono ?_; rintro e w1 ⟨sp, p, dp, rfl, H1⟩)
    | (go_at_call 7; refine (HW.out w1 H1.out.1.e.adds).mono ?_; rintro e w2 ⟨rfl, hA2⟩; have H2 := hid (H1.out.1.add hA2); clear hA2))
  have HPo := hid (spool_any (H2.out.at (sp, SBox p) List.mem_cons_self))
  have HAc := hid (lx_accept H2.out)
  unfold Ptr at *
  go_upto_region 6 with (first
    | (go_at_call 17; refine HPo.out.mono ?_; rintro e w3 ⟨rfl, hw⟩; rw [hw]; clear hw)
    | (go_at_call 19; refine HAc.out.mono ?_; rintro e w3 ⟨z, rfl, H3⟩))
  obtain ⟨N4, hN4⟩ : ∃ N4, N4 = w3.heap.size := ⟨_, rfl⟩
  obtain ⟨w4, hw4⟩ : ∃ w4, w4 = (w3.alloc (.cells (arr30 fun _ => false) 54)).alloc (.cells (arr30 fun _ => false) 54) := ⟨_, rfl⟩
  have hX4 : LpX w w4 [(N4 + 1, AB fun _ => false), (N4, AB fun _ => false), (sp, SBox p)] p dp (G.S1 30 8 (G.first 30 0) false true []) (dSt.new (30 : Nat)) 10 0 := by
    have q1 := H3.out.more ((Touch.refl _ w3).alloc (.cells (arr30 fun _ => false) 54)) N4 _ (by rw [hN4]; exact heap_alloc_new w3 _) (by omega)
    have q2 := q1.more ((Touch.refl _ _).alloc (.cells (arr30 fun _ => false) 54)) (N4 + 1) (AB fun _ => false) (by rw [hN4]; exact heap_alloc2_new w3 _ _) (by simp; omega)
    rw [hw4]
    exact q2
  have hX5 : LpX w w4 [(sp, SBox p), (N4, AB fun _ => false), (N4 + 1, AB fun _ => false)] p dp (G.S1 30 8 (G.first 30 0) false true []) (dSt.new (30 : Nat)) 10 0 := hX4.fewer (fun z hz => by simp at hz ⊢; rcases hz with c | c | c <;> simp [c])
  have hsl : sp < N4 := by rw [hN4]; exact (Array.getElem?_eq_some_iff.1 (H3.out.at _ List.mem_cons_self)).1
  have hwl : w.heap.size ≤ N4 := by rw [hN4]; exact H3.out.e.adds.size
  have hb4 : w4.heap[N4]? = some (AB fun _ => false) := hX5.at (N4, AB fun _ => false) (by simp)
  have hb5 : w4.heap[N4 + 1]? = some (AB fun _ => false) := hX5.at (N4 + 1, AB fun _ => false) (by simp)
  have c4 : w4.cell? ⟨N4, 0, none⟩ = some (.bool false) := by rw [cellOf hb4]; exact arr30_get _ (by decide)
  have f4 : w4.frozen? ⟨N4, 0, none⟩ = false := by simp [World.frozen?, hb4]
  have q6 := lx_bit (X0 := []) hX5 (by omega) (by omega) hwl (i := 0) (by decide) true rfl
  have hb6 : (w4.setCell ⟨N4, 0, none⟩ (.bool true)).heap[N4 + 1]? = some (AB fun _ => false) := q6.at (N4 + 1, AB fun _ => false) (by simp)
  have c5 : (w4.setCell ⟨N4, 0, none⟩ (.bool true)).cell? ⟨N4 + 1, 0, none⟩ = some (.bool false) := by rw [cellOf hb6]; exact arr30_get _ (by decide)
  have f5 : (w4.setCell ⟨N4, 0, none⟩ (.bool true)).frozen? ⟨N4 + 1, 0, none⟩ = false := by simp [World.frozen?, hb6]
  have HG := hid (show Gv w ((w4.setCell ⟨N4, 0, none⟩ (.bool true)).setCell ⟨N4 + 1, 0, none⟩ (.bool true)) sp p dp N4 (N4 + 1) 20 (fun j => if j = 0 then true else false) (fun j => if j = 0 then true else false) by
    have q7 := lx_bit (N4 := N4 + 1) (N5 := N4) (X0 := []) (q6.fewer (Y := [(sp, SBox p), (N4 + 1, AB fun _ => false), (N4, AB fun j => if j = 0 then true else false)]) (fun z hz => by simp at hz ⊢; rcases hz with c | c | c <;> simp [c])) (by omega) (by omega) (by omega) (i := 0) (by decide) true rfl
    have hc := G.CellOf.first (c := 30) (by decide) (by decide)
    have hcf : G.CellOf 30 (G.first 30 0) (fun j => if j = 0 then true else false) := ⟨hc.1, fun i => by rw [hc.2 i]; by_cases c : i = 0 <;> simp [c]⟩
    exact ⟨_, _, false, (q7.fewer (fun z hz => by simp at hz ⊢; rcases hz with c | c | c <;> simp [c])).le (by omega), hcf, hcf, fun _ => rfl, rfl, rfl, by omega, by omega, by omega, hwl, by omega⟩)
  rw [← hw4, ← hN4]
  clear hX4 hX5 hb4 hb5 q6 hb6 hw4 hN4 hz30
  obtain ⟨N5, hN5⟩ : ∃ N5, N5 = N4 + 1 := ⟨_, rfl⟩
  rw [← hN5] at HG c5 f5 ⊢
  have hne : N4 ≠ N5 := by omega
  clear hN5
  go_wp2_with fail
  clear c4 f4 c5 f5
  go_loopw [6] (fun iv wr => ∃ (i : Nat) (now was : Nat → Bool), iv = .int .i64 (i : Int) ∧ i ≤ len ∧ i ≤ 60 ∧ Hid (Gv w wr sp p dp N4 N5 (20 + 20 * i) now was)) (fun iv _ => 60 - (intOf iv).toNat)
  case atStart => exact ⟨0, _, _, rfl, Nat.zero_le _, Nat.zero_le _, HG.out⟩
  case round =>
    obtain ⟨i, now, was, rfl, hi1, hi2, HI⟩ := hrel
    by_cases hl : i < len
    · have hlz : (i : Int) < (len : Int) := by omega
      by_cases h60 : i < 60
      · have h60z : (i : Int) < 60 := by omega
        obtain ⟨b, o, k0, no, fa, fc, bs, ea, hra, _, hno⟩ := HIa.out.2 i hl
        subst ea
        have hrr : Hid (wr.rangeAt b (o + i * 3) (act12C k0 no fa (List.length bs) fc)) := fun j v hv => below_adds HI.out.old (hra j v hv)
        obtain ⟨fl, hfl⟩ : ∃ fl, List.length bs = fl := ⟨_, rfl⟩
        rw [hfl] at hrr
        have hi53 : Hid ((Tryd.prog.info? 57).map (·.size) = some (act12C k0 no fa fl fc).length) := infoAct12
        clear hra hfl
        unfold act12C at hrr hi53
        go_upto_region 11 with (refine wpList_load_mid rfl 57 _ rfl b (o + i * 3) rfl [.int .i64 k0, .int .i64 no, .slice fa fl fc] _ hrr.out Tryd.underlying57 rfl hi53.out ?_)
        obtain ⟨wA, hwA⟩ : ∃ wA, wA = wr.alloc (.cells #[.int .i64 k0, .int .i64 no, .slice fa fl fc] 57) := ⟨_, rfl⟩
        have e0 : wA.cell? ⟨wr.heap.size, 0, none⟩ = some (.int .i64 k0) := by rw [hwA, cellOf (heap_alloc_new wr _)]; rfl
        have e1 : wA.cell? ⟨wr.heap.size, 1, none⟩ = some (.int .i64 no) := by rw [hwA, cellOf (heap_alloc_new wr _)]; rfl
        have HIA := hid (show Gv w wA sp p dp N4 N5 (20 + 20 * i) now was by rw [hwA]; exact HI.out.adds ((Touch.refl _ wr).alloc _))
        rw [← hwA]
        clear hwA HI hrr hi53
        go_upto_block 2 with fail
        obtain ⟨m, hm1, hm30, hmz⟩ := wrap29 no
        rw [hmz]
        generalize wrap64 ((IntKind.u64.wrap no).tmod 29) = zt1 at *
        generalize (IntKind.u64.wrap no).tmod 29 = zt2 at *
        clear e0 e1 hno hmz
        go_cut [9, 10, 11, 12, 13] from 52 to 123 (fun _ _ _ _ _ wx => ∃ now' was', Hid (Gv w wx sp p dp N4 N5 (20 + 20 * i + 10) now' was'))
        case first =>
          have HPo2 := hid (show Calls Tryd.prog 17 #[.pointer (some ⟨sp, 0, none⟩)] wA (Tells (.pointer (some ⟨p, 0, none⟩)) wA) from spool_any HIA.out.boxS)
          have hgn : 20 + 20 * i + 10 ≤ 1000000 := by omega
          by_cases k1 : k0 = 1
          · subst k1
            by_cases hf : now m = true
            · have HFr := hid (show Calls Tryd.prog 16 #[.pointer (some ⟨sp, 0, none⟩), .int .i64 (m : Int)] wA _ from HIA.out.free hgn hm1 hm30 hf)
              go_wp2_with (go_at_call 16; refine HFr.out.mono ?_; rintro e w5 ⟨rfl, H5⟩; have c5 := H5.out.1; have f5 := H5.out.2.1)
              go_meet
              case rel => exact ⟨_, _, H5.out.2.2⟩
            · have hf' : now m = false := by simpa using hf
              have HFr := hid (show Calls Tryd.prog 16 #[.pointer (some ⟨sp, 0, none⟩), .int .i64 (m : Int)] wA _ from HIA.out.none hgn hm1 hm30 hf')
              go_wp2_with (go_at_call 16; refine HFr.out.mono ?_; rintro e w5 ⟨rfl, H5⟩; have c5 := H5.out.1; have f5 := H5.out.2.1)
              go_meet
              case rel => exact ⟨_, _, H5.out.2.2⟩
          · by_cases k2 : k0 = 2
            · subst k2
              have HAc2 := hid (show Calls Tryd.prog 19 #[.pointer (some ⟨p, 0, none⟩)] wA _ from HIA.out.accept)
              go_wp2_with (first
                | (go_at_call 17; refine HPo2.out.mono ?_; rintro e w5 ⟨rfl, hw⟩; rw [hw]; clear hw)
                | (go_at_call 19; refine HAc2.out.mono ?_; rintro e w5 ⟨z5, rfl, H5⟩)
                | (refine wpList_load_row rfl 54 _ rfl N4 rfl 54 (arr30 now) _ _ H5.out.1 Tryd.underlying54 rfl (info30 now) ?_)
                | (refine wpList_store_row rfl 54 _ _ rfl N5 (arr30 now) rfl rfl 54 (arr30 was) H5.out.2.1 (info30 now) (by rw [size_arr30, size_arr30]) (one_arr30 now) ?_))
              go_meet
              case rel => exact ⟨_, _, H5.out.2.2.le (by omega)⟩
            · by_cases k3 : k0 = 3
              · subst k3
                have HDr := hid (show Calls Tryd.prog 20 #[.pointer (some ⟨p, 0, none⟩)] wA _ from HIA.out.drop)
                go_wp2_with (first
                  | (go_at_call 17; refine HPo2.out.mono ?_; rintro e w5 ⟨rfl, hw⟩; rw [hw]; clear hw)
                  | (go_at_call 20; refine HDr.out.mono ?_; rintro e w5 ⟨z5, rfl, H5⟩)
                  | (refine wpList_load_row rfl 54 _ rfl N5 rfl 54 (arr30 was) _ _ H5.out.2.1 Tryd.underlying54 rfl (info30 was) ?_)
                  | (refine wpList_store_row rfl 54 _ _ rfl N4 (arr30 was) rfl rfl 54 (arr30 now) H5.out.1 (info30 was) (by rw [size_arr30, size_arr30]) (one_arr30 was) ?_))
                go_meet
                case rel => exact ⟨_, _, H5.out.2.2.le (by omega)⟩
              · have k1b : (k0 == 1) = false := by simpa using k1
                have k2b : (k0 == 2) = false := by simpa using k2
                have k3b : (k0 == 3) = false := by simpa using k3
                go_wp2_with fail
                go_loopw [10, 11] (fun zv kv wx => ∃ (kk zz : Int), kv = .int .i64 kk ∧ zv = .int .i64 zz ∧ -1 ≤ kk ∧ kk ≤ 29 ∧ wx = wA ∧ Hid (Wnt now kk zz)) (fun _ kv _ => (intOf kv + 1).toNat)
                case atStart => exact ⟨29, -1, rfl, rfl, by decide, by decide, rfl, .inl ⟨rfl, fun j h1 h2 => by omega⟩⟩
                case round =>
                  obtain ⟨kk, zz, rfl, rfl, hk1, hk2, hwx, HWn⟩ := hrel
                  rw [hwx]
                  clear hwx
                  by_cases hk0 : 0 ≤ kk
                  · obtain ⟨j, rfl⟩ : ∃ j : Nat, kk = (j : Int) := ⟨kk.toNat, by omega⟩
                    have cj := (HIA.out.cell (i := j) (by omega)).1
                    by_cases hj : now j = true
                    · rw [hj] at cj
                      go_wp2_with fail
                      go_roundw
                      case rel =>
                        refine ⟨(j : Int) - 1, zz, rfl, rfl, by omega, by omega, trivial, ?_⟩
                        rcases HWn.out with ⟨h1, h2⟩ | ⟨q, h1, h2, h3, h4, h5⟩
                        · exact .inl ⟨h1, fun t ht1 ht2 => by by_cases c : t = j; rw [c]; exact hj; exact h2 t (by omega) ht2⟩
                        · exact .inr ⟨q, h1, by omega, h3, h4, fun t ht1 ht2 => by by_cases c : t = j; rw [c]; exact hj; exact h5 t (by omega) ht2⟩
                      case measure => simp [intOf]
                    · have hj' : now j = false := by simpa using hj
                      rw [hj'] at cj
                      go_wp2_with fail
                      go_roundw
                      case rel => exact ⟨(j : Int) - 1, (j : Int), rfl, rfl, by omega, by omega, trivial, .inr ⟨j, rfl, by omega, by omega, hj', fun t ht1 ht2 => by omega⟩⟩
                      case measure => simp [intOf]
                  · obtain rfl : kk = -1 := by omega
                    rcases HWn.out with ⟨h1, h2⟩ | ⟨q, h1, h2, h3, h4, h5⟩
                    · subst h1
                      have HAl := hid (show Calls Tryd.prog 12 #[.pointer (some ⟨sp, 0, none⟩)] wA _ from HIA.out.full hgn (fun t ht => h2 t (by omega) ht))
                      go_wp2_with (go_at_call 12; refine HAl.out.mono ?_; rintro e w5 ⟨rfl, H5⟩)
                      go_meet
                      case rel => exact ⟨_, _, H5.out⟩
                    · subst h1
                      have HAl := hid (show Calls Tryd.prog 12 #[.pointer (some ⟨sp, 0, none⟩)] wA _ from HIA.out.alloc hgn h3 h4 (fun t ht => h5 t (by omega) ht))
                      have hq0 : (0 : Int) ≤ (q : Int) := by omega
                      clear h2 h4 h5 HWn
                      go_wp2_with (go_at_call 12; refine HAl.out.mono ?_; rintro e w5 ⟨rfl, H5⟩; have c5 := H5.out.1; have f5 := H5.out.2.1)
                      go_meet
                      case rel => exact ⟨_, _, H5.out.2.2⟩
        case rest =>
          obtain ⟨now', was', HC⟩ := hcut
          have HTk := hid (show Calls Tryd.prog 13 #[.pointer (some ⟨sp, 0, none⟩)] wc _ from HC.out.taken (by omega))
          obtain ⟨LL, hLL⟩ : ∃ LL, LL = (G.nums 30 now').length := ⟨_, rfl⟩
          rw [← hLL] at HTk
          have HLL := hid hLL
          clear HIA hLL
          go_wp2_with (go_at_call 13; refine HTk.out.mono ?_; rintro e w6 ⟨la, lc, rfl, H6⟩)
          go_loopw [16, 129] (fun kv nv wx => ∃ (j q : Nat), nv = .int .i64 (j : Int) ∧ kv = .int .i64 (q : Int) ∧ j ≤ 30 ∧ wx = w6 ∧ Hid (q = cnt12 now' j)) (fun _ nv _ => 30 - (intOf nv).toNat)
          case atStart => exact ⟨0, 0, rfl, rfl, by decide, rfl, rfl⟩
          case round =>
            obtain ⟨j, q, rfl, rfl, hj30, hwx, HQ⟩ := hrel
            rw [hwx]
            clear hwx
            by_cases hj : j < 30
            · have hjz : (j : Int) < 30 := by omega
              have hq30 : (q : Int) ≤ 30 := by have := HQ.out; have := cnt12_le now' j; omega
              have cj := (H6.out.1.cell hj).1
              by_cases hn : now' j = true
              · rw [hn] at cj
                obtain ⟨n1, n2⟩ := nums_at12 now' hj hn
                rw [← HLL.out, ← HQ.out] at n1
                rw [← HQ.out] at n2
                obtain ⟨lb, lo, el, hcell⟩ := H6.out.2 q (by rw [← HLL.out]; exact n1)
                subst el
                have hqv : (G.nums 30 now')[q]'(by rw [← HLL.out]; exact n1) = (j : Int) := by
                  rw [List.getElem?_eq_getElem (by rw [← HLL.out]; exact n1)] at n2
                  exact Option.some.inj n2
                rw [hqv] at hcell
                have hb1 : ((j : Int) != (j : Int)) = false := by simp
                have hb2 : ¬ (LL : Int) ≤ (q : Int) := by omega
                have HN1 := hid n1
                clear hqv n2 n1
                go_wp2_with fail
                go_roundw
                case rel => exact ⟨j + 1, q + 1, by go_num, by go_num, by omega, trivial, by show q + 1 = _; rw [cnt12_more, if_pos hn, HQ.out]⟩
                case measure => simp [intOf]; omega
              · have hn' : now' j = false := by simpa using hn
                rw [hn'] at cj
                go_wp2_with fail
                go_roundw
                case rel => exact ⟨j + 1, q, by go_num, rfl, by omega, trivial, by show q = _; rw [cnt12_more, if_neg hn, HQ.out]⟩
                case measure => simp [intOf]; omega
            · obtain rfl : j = 30 := by omega
              have hql : q = LL := by rw [HQ.out, HLL.out, nums_len12]
              subst hql
              have hb1 : ((q : Int) != (q : Int)) = false := by simp
              go_wp2_with fail
              go_roundw
              case rel => exact ⟨i + 1, now', was', by go_num, by omega, by omega, H6.out.1.le (by omega)⟩
              case measure => simp [intOf]; omega
      · have h60z : ¬ (i : Int) < 60 := by omega
        go_wp2_with fail
        go_ret
        exact ⟨rfl, HI.out.old⟩
    · have hlz : ¬ (i : Int) < (len : Int) := by omega
      go_wp2_with fail
      go_ret
      exact ⟨rfl, HI.out.old⟩
end Go.Proofs.YtokbiekdompaoaaDoor
