/- Texts put together: VParse, VSlot, VParse2. -/
import Derived.Test.YtmmgfankbabfbaaDoorQ23
import Derived.Test.YtmmgfankbabfbaaDoorQ39
import Derived.Test.YtmmgfankbabfbaaDoorQ02
import Derived.Test.YtmmgfankbabfbaaDoorQ17
import Derived.Test.YtmmgfankbabfbaaDoorQ21
/- The reference's Parse: what stands in a sector. -/
namespace Go.Proofs.YtmmgfankbabfbaaDoor
open Go.RowKit
set_option maxRecDepth 100000 in
theorem M.oErr_all {bs : List UInt8} (h : M.oErr bs = 0) : bs.length = 256 ∧ M.some0 (bs.take 8) = true ∧ bs.take 8 = bs.drop 248 ∧ openErr (bs.take 248) = 0 ∧ M.kindOf bs ≠ 0 ∧ M.lenOf bs ≤ 233 ∧ M.some0 (M.behindOf bs) = false := by
  unfold M.oErr at h
  by_cases h1 : bs.length ≠ 256
  · rw [if_pos h1] at h; cases h
  · rw [if_neg h1] at h
    by_cases h2 : M.unfix (bs.take 8) = 0
    · rw [if_pos h2] at h; cases h
    · rw [if_neg h2] at h
      by_cases h3 : bs.take 8 ≠ bs.drop 248
      · rw [if_pos h3] at h; cases h
      · rw [if_neg h3] at h
        by_cases h4 : openErr (bs.take 248) ≠ 0
        · rw [if_pos h4] at h; cases h
        · rw [if_neg h4] at h
          by_cases h5 : M.kindOf bs = 0 ∨ 233 < M.lenOf bs ∨ M.some0 (M.behindOf bs) = true
          · rw [if_pos h5] at h; cases h
          · simp only [not_or] at h5
            refine ⟨Decidable.not_not.1 h1, ?_, Decidable.not_not.1 h3, Decidable.not_not.1 h4, h5.1, by omega, by simpa using h5.2.2⟩
            cases hs : M.some0 (bs.take 8) with
            | true => rfl
            | false => exact absurd ((unfix_zero _).2 hs) h2
set_option maxRecDepth 100000 in
theorem rsopen_piece (g cap : Nat) (s : List UInt8) (w : World) (hcap : 256 ≤ cap) (hA : At w (some ⟨g, 0, none⟩) s) (h0 : M.oErr s = 0) :
    Calls Tryd.prog 68 #[.slice (some ⟨g, 0, none⟩) 256 cap] w fun e w' => e = .returned (.tuple #[.int .u64 (M.oMark s : Int), .int .u8 ((M.oKind s).toNat : Int), .slice (some ⟨g, 10, none⟩) (M.oBody s).length (cap - 10), .int .i64 0]) ∧ Hid (At w' (some ⟨g, 10, none⟩) (M.oBody s) ∧ Adds w w') := by
  obtain ⟨h1, h2, h3, h4, h5, h6, h7⟩ := M.oErr_all h0
  refine (rsopen0 g 0 cap s w h1 hcap hA h2 h3 h4 h5 h6 h7).mono ?_
  rintro e w' ⟨rfl, hA'⟩
  have hb : M.oBody s = (s.drop 10).take (M.lenOf s) := by rw [M.oBody, if_pos h0]
  have hlb : (M.oBody s).length = M.lenOf s := by rw [hb, List.length_take, List.length_drop]; omega
  refine ⟨by rw [M.oMark, if_pos h0, M.oKind, if_pos h0, hlb, Nat.zero_add], ?_, hA'⟩
  rw [hb]
  have q := (hA.suf 10).pre (M.lenOf s)
  rw [Nat.zero_add] at q
  exact q.adds hA'
set_option maxRecDepth 100000 in
theorem build_rslot0 (w : World) : (Instr.build 81 #[]).run Tryd.prog w = .ok (.agg #[.int .i64 0, .slice none 0 0]) w := by kernel_rfl
set_option maxRecDepth 100000 in
theorem build_rslot1 (z : Int) (w : World) : (Instr.build 81 #[(0, .int .i64 z)]).run Tryd.prog w = .ok (.agg #[.int .i64 z, .slice none 0 0]) w := by kernel_rfl
set_option maxRecDepth 100000 in
theorem build_R (a : Option Addr) (n cap : Nat) (w : World) : (Instr.build 131 #[(0, .slice a n cap)]).run Tryd.prog w = .ok (.agg #[.slice a n cap, .int .i64 0]) w := by kernel_rfl
set_option maxRecDepth 100000 in
/-- A sector whose stamp or kind is none of a slot's. -/
theorem rparse_bad (g cap : Nat) (s : List UInt8) (w : World) (hl : s.length = 256) (hcap : 256 ≤ cap) (hA : At w (some ⟨g, 0, none⟩) s) (hb : U.bad s) : Calls Tryd.prog 46 #[.slice (some ⟨g, 0, none⟩) 256 cap] w (PStand w ⟨0, []⟩) := by
  have HO := hid (fun w' (h : Adds w w') => show Calls Tryd.prog 68 #[.slice (some ⟨g, 0, none⟩) 256 cap] w' (PRSO w' s) by
    have q := rsopen_any (some ⟨g, 0, none⟩) s cap w' (by omega) (hA.adds h)
    rw [hl] at q
    exact q)
  have hbl := fun w => build_rslot0 w
  clear hA hl hcap
  unfold U.bad at hb
  unfold PRSO at HO
  generalize M.oErr s = oe at *
  generalize M.oKind s = ok at *
  generalize M.oMark s = om at *
  generalize M.oBody s = ob at *
  by_cases h1 : oe = 0
  · subst h1
    by_cases h2 : ok = 3
    · subst h2
      have h3 : 1000000000 < om := by simpa using hb
      have h3b : (1000000000 : Int) < (om : Int) := by omega
      clear hb h3
      go_enter Tryd.func46, Tryd.ntmps46
      go_wp2_with (first
        | (go_at_call 68; refine (HO.out _ ((Touch.refl _ w).alloc _)).mono ?_; rintro e w1 ⟨av, cv, rfl, hB1, hA1⟩
           have hb0 : w1.heap[w.heap.size]? = some (.cells #[.int .i64 0, .slice none 0 0] 81 (0, 0)) := hA1.at' (heap_alloc_new w _) id
           have c0 := cellOf hb0 0
           have c1 := cellOf hb0 1
           have f0 := frozen_of_row w1 _ 0 _ 81 hb0
           have f1 := frozen_of_row w1 _ 1 _ 81 hb0
           have A1 := hid hA1
           have B1 := hid hB1
           clear hA1 hb0 hB1))
      refine bodyPost_ret (v := .agg #[.int .i64 0, .slice none 0 0]) (by simp [results, Tryd.results46, go_sem, c0, c1]) rfl ⟨none, 0, rfl, NQ.nil _ _, ?_⟩
      exact ((((Touch.refl _ w).alloc _).trans A1.out).setCell (fun h => absurd h (Nat.lt_irrefl _)) _).setCell (fun h => absurd h (Nat.lt_irrefl _)) _
    · have h2b : (((ok.toNat : Nat) : Int) == 3) = false := by
        rw [beq_eq_false_iff_ne]
        intro c
        exact h2 (UInt8.toNat_inj.1 (by show ok.toNat = 3; omega))
      have h2c : ¬ ((ok.toNat : Nat) : Int) = 3 := by simpa using h2b
      clear hb h2
      go_enter Tryd.func46, Tryd.ntmps46
      go_wp2_with (first
        | (go_at_call 68; refine (HO.out _ ((Touch.refl _ w).alloc _)).mono ?_; rintro e w1 ⟨av, cv, rfl, hB1, hA1⟩
           have hb0 : w1.heap[w.heap.size]? = some (.cells #[.int .i64 0, .slice none 0 0] 81 (0, 0)) := hA1.at' (heap_alloc_new w _) id
           have c0 := cellOf hb0 0
           have c1 := cellOf hb0 1
           have f0 := frozen_of_row w1 _ 0 _ 81 hb0
           have f1 := frozen_of_row w1 _ 1 _ 81 hb0
           have A1 := hid hA1
           have B1 := hid hB1
           clear hA1 hb0 hB1))
      refine bodyPost_ret (v := .agg #[.int .i64 0, .slice none 0 0]) (by simp [results, Tryd.results46, go_sem, c0, c1]) rfl ⟨none, 0, rfl, NQ.nil _ _, ?_⟩
      exact ((((Touch.refl _ w).alloc _).trans A1.out).setCell (fun h => absurd h (Nat.lt_irrefl _)) _).setCell (fun h => absurd h (Nat.lt_irrefl _)) _
  · have h1b : ¬ (oe : Int) = 0 := by omega
    clear hb h1
    go_enter Tryd.func46, Tryd.ntmps46
    go_wp2_with (first
      | (go_at_call 68; refine (HO.out _ ((Touch.refl _ w).alloc _)).mono ?_; rintro e w1 ⟨av, cv, rfl, hB1, hA1⟩
         have hb0 : w1.heap[w.heap.size]? = some (.cells #[.int .i64 0, .slice none 0 0] 81 (0, 0)) := hA1.at' (heap_alloc_new w _) id
         have c0 := cellOf hb0 0
         have c1 := cellOf hb0 1
         have f0 := frozen_of_row w1 _ 0 _ 81 hb0
         have f1 := frozen_of_row w1 _ 1 _ 81 hb0
         have A1 := hid hA1
         have B1 := hid hB1
         clear hA1 hb0 hB1))
    refine bodyPost_ret (v := .agg #[.int .i64 0, .slice none 0 0]) (by simp [results, Tryd.results46, go_sem, c0, c1]) rfl ⟨none, 0, rfl, NQ.nil _ _, ?_⟩
    exact ((((Touch.refl _ w).alloc _).trans A1.out).setCell (fun h => absurd h (Nat.lt_irrefl _)) _).setCell (fun h => absurd h (Nat.lt_irrefl _)) _
set_option maxRecDepth 100000 in
theorem wp_append_u1 {w : World} {o : Oper} {act : Act} {K : Act → World → Prop} {Q : Exit → Act → World → Prop} (s x : Operand)
    (ho : o.op = .call { callee := .builtin .append, args := #[s, x], argTypes := #[38, 38] }) (v : Value) (n : Nat) (xs : List Value) (hs : act.eval s = v) (hown : w.ownsRow 0 67 1 v n xs)
    (g : Nat) (u : Value) (hx : act.eval x = .slice (some ⟨g, 0, none⟩) 1 1) (hc : w.cell? ⟨g, 0, none⟩ = some u) (hu : u.oneCell' = true) (hlen : n ≤ 10000000)
    (h : ∀ v' w', Grew w w' 67 v v' (n + 1) (xs ++ [u]) → K (act.put o.dst v') w') : o.wp Tryd.prog act w K Q := by
  obtain ⟨i0, hi, hz0, hz1, hz2⟩ := infoU
  refine wp_append_own_at s x 38 ho 0 67 i0 (.int .u64 0) 1 8 Tryd.underlying38 hi hz0 hz1 hz2 rfl (by decide) v n xs hs hown ⟨g, 0, none⟩ 1 1 [u] hx rfl ?_ (fun y hy => by rw [List.mem_singleton.1 hy]; exact hu) (by unfold maxLen; omega) (by omega) (Nat.zero_le _) (fun v' w' h1 h2 _ h4 => h v' w' ⟨h1, h2, h4⟩)
  intro j y hj
  match j, hj with
  | 0, hj =>
    obtain rfl : u = y := by simpa using hj
    rw [Addr.add_mid]; exact hc
set_option maxRecDepth 100000 in
/-- What lies above a reader may turn. -/
theorem IsS.aboveU {w w' : World} {T : Nat → Prop} {p : Nat} {s : M.St} (h : IsS w p s) (hT : Touch T w w') (hp : ∀ k, T k → p < k) : IsS w' p s := by
  obtain ⟨a, cap, hb, hL⟩ := h.box
  exact ⟨⟨a, cap, hT.at' hb (fun c => by have := hp p c; omega), ⟨hL.at_.block (fun b o e hb => hT.block b hb (fun c => by have h1 : b < p := (hL.low _ e).2; have := hp b c; omega)), hL.room, hL.non, hL.low⟩⟩, h.good, h.len, h.err⟩
/-- Where parsing is. -/
structure PI (w wr : World) (q0 p q1 om : Nat) (v : Value) (k : Nat) (s0 : M.St) : Prop where
  res : wr.heap[q0]? = some (.cells #[.int .i64 0, .slice none 0 0] 81 (0, 0))
  box : wr.heap[q1]? = some (.cells #[.int .i64 (om : Int), v] 81 (0, 0))
  row : FreshN (q1 + 1) wr v k (U.lsU s0 k)
  rd : IsS wr p (U.stU s0 k)
  adds : Adds w wr
set_option maxRecDepth 100000 in
theorem PI.next {w wr w4 w5 w6 : World} {q0 p q1 om k t : Nat} {v v' : Value} {s0 : M.St} (h : PI w wr q0 p q1 om v k s0) (ho : w.heap.size ≤ q0 ∧ q0 < p ∧ p < q1) (ht : t = (M.uintR 18446744073709551615 (U.stU s0 k)).1)
    (hr4 : IsS w4 p (U.stU s0 (k + 1))) (hT4 : Touch (Own1 (Ptr p)) wr w4) (hA : Adds w4 w5) (hG : Grew w5 w6 67 v v' (k + 1) (N8 (U.lsU s0 k) ++ [.int .u64 (t : Int)])) : PI w (w6.setCell ⟨q1, 1, none⟩ v') q0 p q1 om v' (k + 1) s0 := by
  have hq1 := lt_of_heap h.box
  have hs4 := hT4.size
  have hs5 := hA.size
  have hT4' : Touch (fun j => j = p) wr w4 := hT4.mono (fun j _ c => by simp only [Own1, Value.pointer.injEq, Option.some.injEq, Addr.mk.injEq] at c; omega)
  have hv : ∀ j, v.ownBlock = some j → q1 + 1 ≤ j := h.row.own
  have hTs : Touch (fun j => j = q1) w6 (w6.setCell ⟨q1, 1, none⟩ v') := Touch.setCell (T := fun j => j = q1) (Touch.refl _ w6) (p := ⟨q1, 1, none⟩) (fun _ => rfl) _
  have hb5 : w5.heap[q1]? = some (.cells #[.int .i64 (om : Int), v] 81 (0, 0)) := hA.at' (hT4'.at' h.box (by omega)) id
  have hb6 : w6.heap[q1]? = some (.cells #[.int .i64 (om : Int), v] 81 (0, 0)) := hG.touch.at' hb5 (fun c => by have := hv q1 c; omega)
  have hvo : ∀ j, v'.ownBlock = some j → q1 + 1 ≤ j := hG.lt (by omega) hv
  refine ⟨?_, ?_, ⟨?_, hvo⟩, ?_, ?_⟩
  · exact hTs.at' (hG.touch.at' (hA.at' (hT4'.at' h.res (by omega)) id) (fun c => by have := hv q0 c; omega)) (by omega)
  · exact heap_setCell_same w6 q1 1 _ 81 _ hb6
  · have q := hG.1
    rw [show N8 (U.lsU s0 k) ++ [Value.int IntKind.u64 (t : Int)] = N8 (U.lsU s0 (k + 1)) by rw [U.lsU, N8_app, ← ht]; rfl] at q
    exact row_touch q hTs (fun j hj e => by have := hvo j hj; omega)
  · exact ((hr4.aboveU hA (fun _ c => c.elim)).aboveU hG.touch (fun j c => by have := hv j c; omega)).aboveU hTs (fun j c => by omega)
  · exact (((h.adds.then hT4' (fun j hj c => by omega)).trans hA).then hG.touch (fun j hj c => by have := hv j c; omega)).then hTs (fun j hj c => by omega)
end Go.Proofs.YtmmgfankbabfbaaDoor

/- The reference's master: Which, Latest. -/
namespace Go.Proofs.YtmmgfankbabfbaaDoor
open Go.RowKit
/-- The reference's master m over its disk p: what is its own (O), its slots' fields x and y. -/
structure IsRMV (w : World) (O : Nat → Prop) (m : Nat) (pv : Value) (x y : NPart) (s : U.MS) : Prop where
  box : w.heap[m]? = some (.cells #[pv, .int .i64 (s.at_ : Int), .int .i64 (s.a.ep : Int), .slice x.a s.a.fs.length x.cap, .int .i64 (s.b.ep : Int), .slice y.a s.b.fs.length y.cap] 88 (0, 0))
  xs : x.ns = s.a.fs
  ys : y.ns = s.b.fs
  qx : NQ w (fun k => O k ∧ k ≠ m) x
  qy : NQ w (fun k => O k ∧ k ≠ m) y
  om : O m
def IsRM (w : World) (O : Nat → Prop) (m p : Nat) (s : U.MS) : Prop := ∃ x y, IsRMV w O m (Ptr p) x y s
theorem IsRMV.touch {w w' : World} {O T : Nat → Prop} {m : Nat} {pv : Value} {x y : NPart} {s : U.MS} (h : IsRMV w O m pv x y s) (hT : Touch T w w') (hn : ∀ k, O k → ¬ T k) : IsRMV w' O m pv x y s :=
  ⟨hT.at' h.box (hn m h.om), h.xs, h.ys, h.qx.touch hT (fun k q => hn k q.1), h.qy.touch hT (fun k q => hn k q.1), h.om⟩
set_option maxRecDepth 100000 in
theorem IsRM.touch {w w' : World} {O T : Nat → Prop} {m p : Nat} {s : U.MS} (h : IsRM w O m p s) (hT : Touch T w w') (hn : ∀ k, O k → ¬ T k) : IsRM w' O m p s := by
  obtain ⟨x, y, h⟩ := h
  exact ⟨x, y, h.touch hT hn⟩
theorem IsRM.adds {w w' : World} {O : Nat → Prop} {m p : Nat} {s : U.MS} (h : IsRM w O m p s) (hT : Adds w w') : IsRM w' O m p s := h.touch hT (fun _ _ => id)
set_option maxRecDepth 100000 in
theorem IsRM.mono {w : World} {O O' : Nat → Prop} {m p : Nat} {s : U.MS} (h : IsRM w O m p s) (hn : ∀ k, O k → O' k) : IsRM w O' m p s := by
  obtain ⟨x, y, h⟩ := h
  exact ⟨x, y, h.box, h.xs, h.ys, h.qx.mono (fun k _ q => ⟨hn k q.1, q.2⟩), h.qy.mono (fun k _ q => ⟨hn k q.1, q.2⟩), hn m h.om⟩
set_option maxRecDepth 100000 in
theorem rwhich_at (m : Nat) (a b : Nat) (w : World) (c2 : w.cell? ⟨m, 2, none⟩ = some (.int .i64 (a : Int))) (c4 : w.cell? ⟨m, 4, none⟩ = some (.int .i64 (b : Int))) (z : Int) (hz : z = if a = 0 ∧ b = 0 then -1 else if a < b then 1 else 0) : Calls Tryd.prog 30 #[Ptr m] w (Adding (.int .i64 z) w) := by
  by_cases h0 : a = 0
  · subst h0
    by_cases h1 : b = 0
    · subst h1
      rw [if_pos ⟨rfl, rfl⟩] at hz
      subst hz
      go_enter Tryd.func30, Tryd.ntmps30
      go_wp2_with fail
      go_ret
      exact ⟨rfl, Touch.refl _ _⟩
    · rw [if_neg (fun c => h1 c.2), if_pos (by omega)] at hz
      subst hz
      have hb : (b == 0) = false := by simpa using h1
      have hb2 : ((b : Int) == 0) = false := by simpa using h1
      have hb3 : decide ((0 : Int) < (b : Int)) = true := by simp; omega
      have hb4 : decide (0 < b) = true := by simp; omega
      go_enter Tryd.func30, Tryd.ntmps30
      go_upto_region 3 with fail
      go_region
      go_wp2_with fail
      go_ret
      exact ⟨rfl, (Touch.refl _ w).drew⟩
  · rw [if_neg (fun c => h0 c.1)] at hz
    have ha : ((a : Int) == 0) = false := by simpa using h0
    have ha2 : (a == 0) = false := by simpa using h0
    by_cases h1 : a < b
    · rw [if_pos h1] at hz
      subst hz
      have hb : decide (a < b) = true := by simpa using h1
      go_enter Tryd.func30, Tryd.ntmps30
      go_upto_region 3 with fail
      go_region
      go_wp2_with fail
      go_ret
      exact ⟨rfl, (Touch.refl _ w).drew⟩
    · rw [if_neg h1] at hz
      subst hz
      have hb : decide (a < b) = false := by simpa using h1
      go_enter Tryd.func30, Tryd.ntmps30
      go_upto_region 3 with fail
      go_region
      go_wp2_with fail
      go_ret
      exact ⟨rfl, (Touch.refl _ w).drew⟩
theorem rwhich_any {w : World} {O : Nat → Prop} {m : Nat} {pv : Value} {x y : NPart} {s : U.MS} (h : IsRMV w O m pv x y s) : Calls Tryd.prog 30 #[Ptr m] w (Adding (.int .i64 s.which) w) :=
  rwhich_at m s.a.ep s.b.ep w (cellOf h.box 2) (cellOf h.box 4) s.which rfl
/-- What Latest tells: where it lies. -/
def PRLat (w : World) (O : Nat → Prop) (s : U.Sl) (e : Ending) (w' : World) : Prop := ∃ a cap, e = .returned (.agg #[.int .i64 (s.ep : Int), .slice a s.fs.length cap]) ∧ Hid (NQ w' O ⟨a, cap, s.fs⟩ ∧ Adds w w')
set_option maxRecDepth 100000 in
set_option maxHeartbeats 1000000 in
theorem rlatest_any {w : World} {O : Nat → Prop} {m : Nat} {pv : Value} {x y : NPart} {s : U.MS} (h : IsRMV w O m pv x y s) : Calls Tryd.prog 24 #[Ptr m] w (PRLat w O s.lat) := by
  have hm := lt_of_heap h.box
  have H := hid (fun w' (hA : Adds w w') => rwhich_any (h.touch hA (fun _ _ => id)))
  have hbl := fun w => build_rslot0 w
  have HNx := hid (show NQ w O ⟨x.a, x.cap, s.a.fs⟩ by have q := h.qx.mono (Q' := O) (fun _ _ q => q.1); rw [show x = ⟨x.a, x.cap, s.a.fs⟩ by rw [← h.xs]] at q; exact q)
  have HNy := hid (show NQ w O ⟨y.a, y.cap, s.b.fs⟩ by have q := h.qy.mono (Q' := O) (fun _ _ q => q.1); rw [show y = ⟨y.a, y.cap, s.b.fs⟩ by rw [← h.ys]] at q; exact q)
  have HBx := hid h.box
  by_cases h0 : s.a.ep = 0 ∧ s.b.ep = 0
  · have e1 : s.which = -1 := by rw [U.MS.which, if_pos h0]
    have e2 : s.lat = ⟨0, []⟩ := by rw [U.MS.lat, if_pos h0]
    rw [e1] at H
    rw [e2]
    clear h h0 e1 e2
    go_enter Tryd.func24, Tryd.ntmps24
    go_wp2_with (first | (go_at_call 30; refine (H.out _ ((Touch.refl _ w).alloc _)).mono ?_; rintro e w1 ⟨rfl, hA1⟩; have hb0 : w1.heap[w.heap.size]? = some (.cells #[.int .i64 0, .slice none 0 0] 81 (0, 0)) := hA1.at' (heap_alloc_new w _) id; have c0 := cellOf hb0 0; have c1 := cellOf hb0 1; have f0 := frozen_of_row w1 _ 0 _ 81 hb0; have f1 := frozen_of_row w1 _ 1 _ 81 hb0; have A1 := hid hA1; clear hA1 hb0))
    refine bodyPost_ret (v := .agg #[.int .i64 0, .slice none 0 0]) (by simp [results, Tryd.results24, go_sem, c0, c1]) rfl ⟨none, 0, rfl, NQ.nil _ _, ?_⟩
    exact ((((Touch.refl _ w).alloc _).trans A1.out).setCell (fun h => absurd h (Nat.lt_irrefl _)) _).setCell (fun h => absurd h (Nat.lt_irrefl _)) _
  · by_cases h1 : s.a.ep < s.b.ep
    · have e1 : s.which = 1 := by rw [U.MS.which, if_neg h0, if_pos h1]
      have HE := hid (show s.lat = s.b by rw [U.MS.lat, if_neg h0, if_pos h1])
      rw [e1] at H
      obtain ⟨n, hn⟩ : ∃ n, n = s.b.fs.length := ⟨_, rfl⟩
      have H45 := hid (fun w' (hA : Adds w w') => show w'.cell? ⟨m, 4, none⟩ = some (.int .i64 (s.b.ep : Int)) ∧ w'.cell? ⟨m, 5, none⟩ = some (.slice y.a n y.cap) by rw [hn]; exact ⟨below_adds hA (cellOf HBx.out 4), below_adds hA (cellOf HBx.out 5)⟩)
      have HN := hid hn
      clear h h0 h1 e1 hn
      go_enter Tryd.func24, Tryd.ntmps24
      go_wp2_with (first | (go_at_call 30; refine (H.out _ ((Touch.refl _ w).alloc _)).mono ?_; rintro e w1 ⟨rfl, hA1⟩; have hb0 : w1.heap[w.heap.size]? = some (.cells #[.int .i64 0, .slice none 0 0] 81 (0, 0)) := hA1.at' (heap_alloc_new w _) id; have c0 := cellOf hb0 0; have c1 := cellOf hb0 1; have f0 := frozen_of_row w1 _ 0 _ 81 hb0; have f1 := frozen_of_row w1 _ 1 _ 81 hb0; have A1 := hid (((Touch.refl _ w).alloc _).trans hA1); obtain ⟨d4, d5⟩ := H45.out w1 A1.out; clear hA1 hb0))
      refine bodyPost_ret (v := .agg #[.int .i64 (s.b.ep : Int), .slice y.a n y.cap]) (by simp [results, Tryd.results24, go_sem, c0, c1]) rfl ⟨y.a, y.cap, by rw [HE.out, HN.out], ?_, ?_⟩
      · rw [HE.out]
        exact HNy.out.adds ((A1.out.setCell (fun h => absurd h (Nat.lt_irrefl _)) _).setCell (fun h => absurd h (Nat.lt_irrefl _)) _)
      · exact (A1.out.setCell (fun h => absurd h (Nat.lt_irrefl _)) _).setCell (fun h => absurd h (Nat.lt_irrefl _)) _
    · have e1 : s.which = 0 := by rw [U.MS.which, if_neg h0, if_neg h1]
      have HE := hid (show s.lat = s.a by rw [U.MS.lat, if_neg h0, if_neg h1])
      rw [e1] at H
      obtain ⟨n, hn⟩ : ∃ n, n = s.a.fs.length := ⟨_, rfl⟩
      have H23 := hid (fun w' (hA : Adds w w') => show w'.cell? ⟨m, 2, none⟩ = some (.int .i64 (s.a.ep : Int)) ∧ w'.cell? ⟨m, 3, none⟩ = some (.slice x.a n x.cap) by rw [hn]; exact ⟨below_adds hA (cellOf HBx.out 2), below_adds hA (cellOf HBx.out 3)⟩)
      have HN := hid hn
      clear h h0 h1 e1 hn
      go_enter Tryd.func24, Tryd.ntmps24
      go_wp2_with (first | (go_at_call 30; refine (H.out _ ((Touch.refl _ w).alloc _)).mono ?_; rintro e w1 ⟨rfl, hA1⟩; have hb0 : w1.heap[w.heap.size]? = some (.cells #[.int .i64 0, .slice none 0 0] 81 (0, 0)) := hA1.at' (heap_alloc_new w _) id; have c0 := cellOf hb0 0; have c1 := cellOf hb0 1; have f0 := frozen_of_row w1 _ 0 _ 81 hb0; have f1 := frozen_of_row w1 _ 1 _ 81 hb0; have A1 := hid (((Touch.refl _ w).alloc _).trans hA1); obtain ⟨d2, d3⟩ := H23.out w1 A1.out; clear hA1 hb0))
      refine bodyPost_ret (v := .agg #[.int .i64 (s.a.ep : Int), .slice x.a n x.cap]) (by simp [results, Tryd.results24, go_sem, c0, c1]) rfl ⟨x.a, x.cap, by rw [HE.out, HN.out], ?_, ?_⟩
      · rw [HE.out]
        exact HNx.out.adds ((A1.out.setCell (fun h => absurd h (Nat.lt_irrefl _)) _).setCell (fun h => absurd h (Nat.lt_irrefl _)) _)
      · exact (A1.out.setCell (fun h => absurd h (Nat.lt_irrefl _)) _).setCell (fun h => absurd h (Nat.lt_irrefl _)) _
end Go.Proofs.YtmmgfankbabfbaaDoor

/- The reference's Parse: a sector that is a slot's by its stamp and its kind. -/
namespace Go.Proofs.YtmmgfankbabfbaaDoor
open Go.RowKit
set_option maxRecDepth 100000 in
theorem boxed_RU {w : World} {a : Option Addr} {g : List UInt8} {n cap : Nat} (hn : g.length = n) (hl : n ≤ 4096) (hL : Lies w w.heap.size a g cap) : IsS (w.alloc (.cells #[.slice a n cap, .int .i64 0] 131)) w.heap.size ⟨0, g⟩ := by
  refine ⟨⟨a, cap, ?_, hL.adds ((Touch.refl _ w).alloc _)⟩, fun h => absurd rfl h, by show g.length ≤ _; omega, by show 0 ≤ 100; decide⟩
  have q := heap_alloc_new w (.cells #[.slice a n cap, .int .i64 0] 131)
  rw [← hn] at q ⊢
  exact q
set_option maxRecDepth 100000 in
theorem at_low {w : World} {g o : Nat} {s : List UInt8} (h : At w (some ⟨g, o, none⟩) s) (hs : s ≠ []) : g < w.heap.size := by
  obtain ⟨c, l, rfl⟩ := List.exists_cons_of_ne_nil hs
  obtain ⟨b, o', e, hc⟩ := h 0 c rfl
  cases e
  exact World.block_lt_of_cell? _ _ hc
set_option maxRecDepth 100000 in
set_option maxHeartbeats 4000000 in
theorem rparse_good (g cap : Nat) (s : List UInt8) (w : World) (hl : s.length = 256) (hcap : 256 ≤ cap) (hA : At w (some ⟨g, 0, none⟩) s) (hb : ¬ U.bad s) : Calls Tryd.prog 46 #[.slice (some ⟨g, 0, none⟩) 256 cap] w (PStand w (U.slot s)) := by
  have h1 : M.oErr s = 0 := by unfold U.bad at hb; omega
  have h2 : M.oKind s = 3 := by
    by_cases h2 : M.oKind s = 3
    · exact h2
    · exact absurd (.inr (.inl h2)) hb
  have h3 : M.oMark s ≤ 1000000000 := by unfold U.bad at hb; omega
  have HO := hid (fun w' (h : Adds w w') => show Calls Tryd.prog 68 #[.slice (some ⟨g, 0, none⟩) 256 cap] w' (fun e w'' => e = .returned (.tuple #[.int .u64 (M.oMark s : Int), .int .u8 3, .slice (some ⟨g, 10, none⟩) (M.oBody s).length (cap - 10), .int .i64 0]) ∧ Hid (At w'' (some ⟨g, 10, none⟩) (M.oBody s) ∧ Adds w' w'')) by
    have q := rsopen_piece g cap s w' hcap (hA.adds h) h1
    rw [h2] at q
    exact q)
  have hg := at_low hA (fun c => by rw [c] at hl; cases hl)
  have hbl0 := fun w => build_rslot0 w
  have hbl1 := fun z w => build_rslot1 z w
  have hbR := fun a n cap w => build_R a n cap w
  have hbody := W.oBody_le s
  have HQ := hid (fun h4 => U.slot_yes hb h4)
  have HQ2 := hid (fun h4 => U.slot_end (b := s) h4)
  clear hA hl hb h1 h2
  generalize M.oMark s = om at *
  generalize M.oBody s = ob at *
  obtain ⟨N, hN⟩ : ∃ N, N = U.cnt ob := ⟨_, rfl⟩
  obtain ⟨s0, hs0⟩ : ∃ s0, s0 = U.st0 ob := ⟨_, rfl⟩
  have hN1 : N ≤ 20 := by rw [hN]; exact U.cnt_le _
  rw [← hN, ← hs0] at HQ HQ2
  obtain ⟨obl, hobl⟩ : ∃ obl, obl = ob.length := ⟨_, rfl⟩
  obtain ⟨ocap, hocap⟩ : ∃ ocap, ocap = cap - 10 := ⟨_, rfl⟩
  rw [← hobl, ← hocap] at HO
  have HB := hid (fun w1 (hA : Adds w w1) (h : At w1 (some ⟨g, 10, none⟩) ob) => boxed_RU (w := w1) (a := some ⟨g, 10, none⟩) (g := ob) (n := obl) (cap := ocap) hobl.symm (by omega) ⟨h, (by omega), (fun e => (by cases e)), (fun ad e => (by cases e; exact ⟨rfl, Nat.lt_of_lt_of_le hg hA.size⟩))⟩)
  have HU := hid (fun w1 p (h : IsS w1 p ⟨0, ob⟩) => show Calls Tryd.prog 69 #[Ptr p, .int .u64 20] w1 (PS w1 p (.int .u64 (N : Int)) s0) by rw [hN, hs0]; exact ruint_any 20 h)
  have HT := hid (fun w1 p t (h : IsS w1 p t) => show Calls Tryd.prog 69 #[Ptr p, .int .u64 18446744073709551615] w1 (PS w1 p (.int .u64 ((M.uintR 18446744073709551615 t).1 : Int)) (M.uintR 18446744073709551615 t).2) from ruint_any 18446744073709551615 h)
  have HE := hid (fun w1 p t (h : IsS w1 p t) => rend_any h)
  clear hN hs0 hbody hobl hocap hg hcap
  go_enter Tryd.func46, Tryd.ntmps46
  go_wp2_with (first
    | (go_at_call 68; refine (HO.out _ ((Touch.refl _ w).alloc _)).mono ?_; rintro e w1 ⟨rfl, H1⟩)
    | (go_at_call 69; refine (HU.out _ w1.heap.size (HB.out w1 (((Touch.refl _ w).alloc _).trans H1.out.2) H1.out.1)).mono ?_; rintro e w2 ⟨rfl, hr2, hT2⟩; have H2 := hid (And.intro hr2 hT2); clear hr2 hT2))
  obtain ⟨q0, hq0⟩ : ∃ q0, q0 = w.heap.size := ⟨_, rfl⟩
  obtain ⟨p, hp⟩ : ∃ p, p = w1.heap.size := ⟨_, rfl⟩
  obtain ⟨q1, hq1⟩ : ∃ q1, q1 = w2.heap.size := ⟨_, rfl⟩
  have HP := hid (show w.heap.size ≤ q0 ∧ q0 < p ∧ p < q1 by
    have s1 := H1.out.2.size
    have s2 := H2.out.2.size
    simp at s1 s2
    omega)
  have HPI := hid (show PI w (w2.alloc (.cells #[.int .i64 (om : Int), .slice none 0 0] 81)) q0 p q1 om (.slice none 0 0) 0 s0 by
    have s1 := H1.out.2.size
    have s2 := H2.out.2.size
    have hT2 : Touch (fun j => j = p) (w1.alloc (.cells #[.slice (some ⟨g, 10, none⟩) obl ocap, .int .i64 0] 131)) w2 := H2.out.2.mono (fun j _ c => by simp only [Own1, Value.pointer.injEq, Option.some.injEq, Addr.mk.injEq] at c; omega)
    have hA2 : Adds (w.alloc (.cells #[.int .i64 0, .slice none 0 0] 81)) w2 := (H1.out.2.alloc _).then hT2 (fun j hj c => by simp at hj; simp at s1; have := HP.out; omega)
    refine ⟨?_, ?_, FreshN.nil _ _, ?_, (((Touch.refl _ w).alloc _).trans hA2).alloc _⟩
    · rw [hq0]
      exact (hA2.alloc _).at' (heap_alloc_new w _) id
    · rw [hq1]
      exact heap_alloc_new w2 _
    · rw [hp]
      exact H2.out.1.aboveU ((Touch.refl (fun _ => False) w2).alloc _) (fun _ c => c.elim))
  rw [← hq0, ← hp, ← hq1]
  clear hq0 hp hq1 H1 H2 HO HB HU
  go_loopw [10] (fun i wr => ∃ k : Nat, k ≤ N ∧ i = .int .i64 (k : Int) ∧ Hid (∃ v, PI w wr q0 p q1 om v k s0)) (fun i _ => N - (intOf i).toNat)
  case atStart => exact ⟨0, Nat.zero_le _, rfl, _, HPI.out⟩
  case round =>
    obtain ⟨k, hk, rfl, HI0⟩ := hrel
    obtain ⟨v, hI⟩ := HI0.out
    have HI := hid hI
    clear HI0 hI
    by_cases hlt : k < N
    · obtain ⟨t, ht⟩ : ∃ t, t = (M.uintR 18446744073709551615 (U.stU s0 k)).1 := ⟨_, rfl⟩
      have HX := hid (fun w' (h : IsS w' p (U.stU s0 k)) => HT.out w' p _ h)
      rw [← ht] at HX
      have HTt := hid ht
      clear ht
      go_upto_region 10 with fail
      have hS0 : wr.drew.heap[q1]? = some (.cells #[.int .i64 (om : Int), v] 81 (0, 0)) := HI.out.box
      refine E_begin (S := fun w' : World => w'.heap[q1]? = some (.cells #[.int .i64 (om : Int), v] 81 (0, 0))) (X := 7) (by kernel_rfl) ?_
      refine E_put (i := 0) 43 (v := .pointer (some ⟨q1, 1, none⟩)) rfl rfl (by kernel_rfl) (by kernel_rfl) (by kernel_rfl) (by kernel_rfl) (fun _ _ _ h => h) (Or.inl ⟨by rfl, fun _ _ => by go_simp⟩) hS0 ?_
      simp only [Act.put, List.setIfInBounds_toArray, List.set_cons_zero, List.set_cons_succ]
      refine E_put (i := 1) 44 (v := v) rfl rfl (by kernel_rfl) (by kernel_rfl) (by kernel_rfl) (by kernel_rfl) (fun _ _ _ h => h) (Or.inl ⟨by rfl, fun w' hw' => ?_⟩) hS0 ?_
      · have c1 := cellOf hw' 1; clear hw'; go_simp
      simp only [Act.put, List.setIfInBounds_toArray, List.set_cons_zero, List.set_cons_succ]
      refine E_put (i := 2) 45 (v := Ptr p) rfl rfl (by kernel_rfl) (by kernel_rfl) (by kernel_rfl) (by kernel_rfl) (fun _ _ _ h => h) (Or.inl ⟨by rfl, fun _ _ => by rfl⟩) hS0 ?_
      simp only [Act.put, List.setIfInBounds_toArray, List.set_cons_zero, List.set_cons_succ]
      refine E_call (i := 3) 46 69 #[Ptr p, .int .u64 18446744073709551615] (by kernel_rfl) rfl rfl (by rfl) (by go_simp) (HX.out wr.drew (HI.out.rd.aboveU (Touch.refl (fun _ => False) wr).drew (fun _ c => c.elim))) ?_
      rintro e w4 ⟨rfl, hr4, hT4⟩
      have H4 := hid (And.intro hr4 ((Touch.refl _ wr).drew.trans hT4))
      have hb4 : w4.heap[q1]? = some (.cells #[.int .i64 (om : Int), v] 81 (0, 0)) := hT4.at' hS0 (fun c => by simp only [Own1, Value.pointer.injEq, Option.some.injEq, Addr.mk.injEq] at c; have := HP.out; omega)
      refine ⟨_, rfl, fun _ => hb4, ?_⟩
      simp only [Act.put, List.setIfInBounds_toArray, List.set_cons_zero, List.set_cons_succ]
      clear hr4 hT4 hS0
      obtain ⟨w5, hw5⟩ : ∃ w5, w5 = w4.alloc (.cells #[.int .u64 (t : Int)] 67) := ⟨_, rfl⟩
      have hA5 : Adds w4 w5 := by rw [hw5]; exact (Touch.refl _ w4).alloc _
      have hb5 : w5.heap[q1]? = some (.cells #[.int .i64 (om : Int), v] 81 (0, 0)) := hA5.at' hb4 id
      have HC5 := hid (show w5.cell? ⟨w4.heap.size, 0, none⟩ = some (.int .u64 (t : Int)) by rw [hw5]; exact cellOf (heap_alloc_new w4 _) 0)
      have HR5 := hid (show w5.ownsRow 0 67 1 v k (N8 (U.lsU s0 k)) from row_touch (row_touch HI.out.row.rows H4.out.2 (fun j hj c => by
        simp only [Own1, Value.pointer.injEq, Option.some.injEq, Addr.mk.injEq] at c
        have := HI.out.row.own j hj
        have := HP.out
        omega)) hA5 (fun _ _ => id))
      have hbs : (Instr.buildSlice 38 1 #[(0, .int .u64 (t : Int))]).run Tryd.prog w4 = .ok (.slice (some ⟨w4.heap.size, 0, none⟩) 1 1) w5 := by rw [hw5]; go_simp
      refine E_do (i := 4) (some 47) (by kernel_rfl) rfl rfl rfl (fun K hK => ?_)
      refine wp_buildSlice 38 1 0 (.tmp 46) rfl rfl hbs ?_
      refine hK _ _ (fun _ => hb5) ?_
      clear hK K hbs
      simp only [Act.put, List.setIfInBounds_toArray, List.set_cons_zero, List.set_cons_succ]
      have HA5 := hid hA5
      clear hw5 hA5 hb4
      refine E_do (i := 5) (some 48) (by kernel_rfl) rfl rfl rfl (fun K hK => ?_)
      refine wp_append_u1 _ _ rfl v k (N8 (U.lsU s0 k)) rfl HR5.out w4.heap.size (.int .u64 (t : Int)) rfl HC5.out rfl (by omega) ?_
      intro v6 w6 G6
      have HG := hid G6
      have hb6 : w6.heap[q1]? = some (.cells #[.int .i64 (om : Int), v] 81 (0, 0)) := G6.touch.at' hb5 (fun c => by have := HI.out.row.own q1 c; omega)
      refine hK _ _ (fun _ => hb6) ?_
      clear hK K G6 hb5
      simp only [Act.put, List.setIfInBounds_toArray, List.set_cons_zero, List.set_cons_succ]
      have c1 := cellOf hb6 1
      have f1 := frozen_of_row w6 _ 1 _ 81 hb6
      refine E_do (i := 6) (some 49) (by kernel_rfl) rfl rfl rfl (fun K hK => ?_)
      go_simp
      refine hK (.pointer (some ⟨q1, 1, none⟩)) _ (fun _ => hb6) ?_
      clear hK K
      simp only [Act.put, List.setIfInBounds_toArray, List.set_cons_zero, List.set_cons_succ]
      obtain ⟨a6, cap6, hv6, _, _, _⟩ := own_cq HG.out.1
      subst hv6
      refine E_do (i := 7) none (by kernel_rfl) rfl rfl rfl (fun K hK => ?_)
      go_simp
      refine hK undef _ (fun h => absurd rfl h) ?_
      clear hK K
      simp only [Act.put]
      refine E_done (by kernel_rfl) ?_ _
      have HN := hid (HI.out.next HP.out HTt.out H4.out.1 H4.out.2 HA5.out HG.out)
      clear c1 f1 hb6
      go_wp2_with fail
      go_roundw
      case rel => exact ⟨k + 1, by omega, by go_num, _, HN.out⟩
      case measure => simp [intOf]; omega
    · obtain rfl : k = N := by omega
      have hb0 := HI.out.res
      have c0 := cellOf hb0 0
      have c1 := cellOf hb0 1
      have f0 := frozen_of_row wr _ 0 _ 81 hb0
      have f1 := frozen_of_row wr _ 1 _ 81 hb0
      obtain ⟨a9, cap9, hv9, hq9⟩ := HI.out.row.part
      subst hv9
      have hbx := HI.out.box
      have d0 := cellOf hbx 0
      have d1 := cellOf hbx 1
      have HX := hid (HE.out wr p _ HI.out.rd)
      have HQ9 := hid hq9
      have HAs := hid (HI.out.adds)
      clear hb0 hbx hq9
      by_cases hz : M.endE (U.stU s0 k) = 0
      · rw [hz] at HX
        have HW := hid (HQ.out hz)
        clear hz
        go_wp2_with (first | (go_at_call 70; refine HX.out.mono ?_; rintro e _ ⟨rfl, hw⟩; rw [hw]; clear hw))
        refine bodyPost_ret (v := .agg #[.int .i64 (om : Int), .slice a9 k cap9]) (by simp [results, Tryd.results46, go_sem, c0, c1]) rfl ⟨a9, cap9, by rw [HW.out]; show _ = Ending.returned (.agg #[.int .i64 (om : Int), .slice a9 (U.lsU s0 k).length cap9]); rw [U.lsU_len], ?_, ?_⟩
        · have hT9 : Touch (fun j => j = q0) wr ((wr.setCell ⟨q0, 0, none⟩ (.int .i64 (om : Int))).setCell ⟨q0, 1, none⟩ (.slice a9 k cap9)) := Touch.setCell (T := fun j => j = q0) (Touch.setCell (T := fun j => j = q0) (Touch.refl _ wr) (p := ⟨q0, 0, none⟩) (fun _ => rfl) _) (p := ⟨q0, 1, none⟩) (fun _ => rfl) _
          rw [HW.out]
          exact (HQ9.out.touch hT9 (fun j hj e => by have := HP.out; omega)).mono (fun j _ hj => by have := HP.out; omega)
        · exact (HAs.out.setCell (fun h => absurd h (by have := HP.out; simp; omega)) _).setCell (fun h => absurd h (by have := HP.out; simp; omega)) _
      · have HW := hid (HQ2.out hz)
        obtain ⟨z, hz2⟩ : ∃ z, z = M.endE (U.stU s0 k) := ⟨_, rfl⟩
        rw [← hz2] at HX hz
        have hz' : ((z : Int) != 0) = true := by simp only [bne_iff_ne, ne_eq]; omega
        have hz'' : ¬ (z : Int) = 0 := by omega
        clear hz hz2
        go_wp2_with (first | (go_at_call 70; refine HX.out.mono ?_; rintro e _ ⟨rfl, hw⟩; rw [hw]; clear hw))
        refine bodyPost_ret (v := .agg #[.int .i64 0, .slice none 0 0]) (by simp [results, Tryd.results46, go_sem, c0, c1]) rfl ⟨none, 0, by rw [HW.out]; rfl, by rw [HW.out]; exact NQ.nil _ _, ?_⟩
        exact (HAs.out.setCell (fun h => absurd h (by have := HP.out; simp; omega)) _).setCell (fun h => absurd h (by have := HP.out; simp; omega)) _
set_option maxRecDepth 100000 in
theorem rparse_any (g cap : Nat) (s : List UInt8) (w : World) (hl : s.length = 256) (hcap : 256 ≤ cap) (hA : At w (some ⟨g, 0, none⟩) s) : Calls Tryd.prog 46 #[.slice (some ⟨g, 0, none⟩) 256 cap] w (PStand w (U.slot s)) := by
  by_cases hb : U.bad s
  · rw [U.slot_no hb]
    exact rparse_bad g cap s w hl hcap hA hb
  · exact rparse_good g cap s w hl hcap hA hb
end Go.Proofs.YtmmgfankbabfbaaDoor
