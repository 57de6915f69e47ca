/- A row of Nulls. -/
import Derived.Test.YtlgchdpajfmpdaaOne
namespace Go.Proofs.Ytlgchdpajfmpdaa
open Go.RowKit

theorem info61all : ∃ i, Try.prog.info? 61 = some i ∧ i.zero = some (.agg #[.int .i64 0, .int .i64 0, .float .f64 0, .string ⟨#[]⟩]) ∧ i.size = 4 ∧ i.bytes = 40 := by
  have h : (Try.prog.info? 61).map (fun i => (i.zero, i.size, i.bytes)) = some (some (.agg #[.int .i64 0, .int .i64 0, .float .f64 0, .string ⟨#[]⟩]), 4, 40) := by kernel_rfl
  cases hq : Try.prog.info? 61 with
  | none => rw [hq] at h; cases h
  | some i =>
    rw [hq] at h
    simp only [Option.map_some, Option.some.injEq, Prod.mk.injEq] at h
    exact ⟨i, rfl, h.1, h.2.1, h.2.2⟩
/-- Nulls in a block. -/
def ZAt (w : World) (g m : Nat) : Prop := ∀ j, j < m → w.cell? ⟨g, j * 4, none⟩ = some (.int .i64 0) ∧ w.cell? ⟨g, j * 4 + 1, none⟩ = some (.int .i64 0) ∧ w.cell? ⟨g, j * 4 + 2, none⟩ = some (.float .f64 0) ∧ w.cell? ⟨g, j * 4 + 3, none⟩ = some (.string ⟨#[]⟩)
theorem ZAt.adds {w w' : World} {g m : Nat} (h : ZAt w g m) (hA : Adds w w') : ZAt w' g m := by
  intro j hj
  obtain ⟨h0, h1, h2, h3⟩ := h j hj
  have e := hA.block g (World.block_lt_of_cell? w _ h0) id
  exact ⟨by rw [World.cell?_of_block (w := w) e]; exact h0, by rw [World.cell?_of_block (w := w) e]; exact h1, by rw [World.cell?_of_block (w := w) e]; exact h2, by rw [World.cell?_of_block (w := w) e]; exact h3⟩
theorem make_nulls (n : Nat) (hn : n ≤ 1000) (w : World) : ∃ w', (Instr.makeSlice 25 (.int .i64 (n : Int)) (.int .i64 (n : Int))).run Try.prog w = .ok (.slice (some ⟨w.heap.size, 0, none⟩) n n) w' ∧ ZAt w' w.heap.size n ∧ Adds w w' := by
  obtain ⟨i0, hi, hz0, hz1, hz2⟩ := info61all
  have := run_make (P := Try.prog) w 25 61 i0 _ Try.underlying25 hi hz0 .i64 .i64 n n (by omega) (by omega) (by rw [hz2]; omega) (by omega)
  refine ⟨_, this, ?_, (Touch.refl _ w).alloc _⟩
  intro j hj
  rw [hz1, Int.toNat_natCast]
  have key : ∀ k, k < n * 4 → (madeCells (Value.cells (.agg #[.int .i64 0, .int .i64 0, .float .f64 0, .string ⟨#[]⟩])) (n * 4))[k]? = some ((#[.int .i64 0, .int .i64 0, .float .f64 0, .string ⟨#[]⟩] : Array Value)[k % 4]!) := by
    intro k hk
    rw [Array.getElem?_eq_getElem (by rw [size_madeCells]; exact hk)]
    simp [madeCells, Value.cells]
  have c := fun k => cellOf (heap_alloc_new w (.cells (madeCells (Value.cells (.agg #[.int .i64 0, .int .i64 0, .float .f64 0, .string ⟨#[]⟩])) (n * 4)) 61)) k
  refine ⟨?_, ?_, ?_, ?_⟩
  · rw [c, key _ (by omega), show j * 4 % 4 = 0 by omega]; rfl
  · rw [c, key _ (by omega), show (j * 4 + 1) % 4 = 1 by omega]; rfl
  · rw [c, key _ (by omega), show (j * 4 + 2) % 4 = 2 by omega]; rfl
  · rw [c, key _ (by omega), show (j * 4 + 3) % 4 = 3 by omega]; rfl
theorem hst (w : World) (a : Addr) (x : Nat) (m : Mode) : (store a (.float .f64 x) m).run Try.prog w = stored Try.prog w a (.float .f64 x) m := run_store _ _ _ _ _ rfl
set_option maxHeartbeats 400000 in
theorem valueRight_null (w : World) : Calls Try.prog 31 #[.agg #[.int .i64 0, .int .i64 0, .float .f64 0, .string ⟨#[]⟩]] w (Tells w (.bool true)) := by
  have hz : (FloatKind.f64.format.order 0 0 == some .eq) = true := by decide
  have hz2 : (FloatKind.f64.format.order 0 0 != some .eq) = false := by decide
  go_enter Try.func31, Try.ntmps31
  go_wp2
  go_ret
  exact ⟨rfl, by first | exact (Touch.refl _ w).alloc _ | exact ((Touch.refl _ w).alloc _).setCell (fun h => absurd h (Nat.lt_irrefl _)) _⟩
/-- An operation comes up alone: it yields a value in a new world. -/
theorem H_value {P : Program} {ops : Array Oper} {Q : Exit → Act → World → Prop} {md : Region.Mode} {S : World → Prop} {i : Nat} {o : Oper} (d : Nat) {v : Value} {fuel : Nat} {listed : Array Bool} {a : Act} {w w' : World} (hr : Region.ready md ops listed = [i]) (ho : ops[i]? = some o) (hd : o.dst = some d)
    (hw : Region.wanted o (yielded ops a.tmps) = true) (hx : (execOp a.eval o).run P w = .ok (.value v) w') (S' : World → Prop) (hS : ∀ w, S' w → S w) (h1 : S' w')
    (h : wpAnyH P md ops Q S' fuel (listed.setIfInBounds i true) (a.put (some d) v) w') : wpAnyH P md ops Q S (fuel + 1) listed a w := by
  refine wpAnyH_all hr (by simp) (fun j hj => ?_)
  obtain rfl := List.mem_singleton.1 hj
  exact O_value d ho hd hw hx S' hS h1 h
set_option maxRecDepth 100000 in
set_option maxHeartbeats 2000000 in
theorem fits_nulls (n : List UInt8) (a : Option Addr) (cap : Nat) (cs : List M.Col) (g m : Nat) (w : World) (hm : m ≤ 1000) (hZ : ZAt w g m) : Calls Try.prog 14 #[.agg #[.string ⟨n.toArray⟩, .slice a cs.length cap], .slice (some ⟨g, 0, none⟩) m m] w (Tells w (.bool (decide (m = cs.length)))) := by
  have HZ := hid hZ
  have A0 := hid (show Adds w (w.alloc (.cells #[.string ⟨n.toArray⟩, .slice a cs.length cap] 24)) from (Touch.refl _ w).alloc _)
  have hs := hst
  clear hZ
  by_cases hn : m = cs.length
  · have zn : ((m : Int) == (cs.length : Int)) = true := by rw [beq_iff_eq]; omega
    have HD := hid (show decide (m = cs.length) = true from decide_eq_true hn)
    clear hn
    go_enter Try.func14, Try.ntmps14
    go_wp2_with fail
    go_loopw [15] (fun iv wr => ∃ i : Nat, iv = .int .i64 (i : Int) ∧ i ≤ m ∧ Hid (Adds w wr)) (fun iv _ => m - (intOf iv).toNat)
    case atStart => exact ⟨0, rfl, Nat.zero_le _, A0.out⟩
    case round =>
      obtain ⟨i, rfl, hi, HI⟩ := hrel
      by_cases hlt : i < m
      · have hltz : (i : Int) < (m : Int) := by omega
        obtain ⟨c0, c1, c2, c3⟩ := HZ.out.adds HI.out i hlt
        go_upto_region 6 with fail
        have HB := hid (fun (w' : World) (hA : Adds (wr.alloc (.cells #[.int .i64 0, .int .i64 0, .float .f64 0, .string ⟨#[]⟩] 61)) w') => show w'.cell? ⟨wr.heap.size, 0, none⟩ = some (.int .i64 0) ∧ w'.cell? ⟨wr.heap.size, 1, none⟩ = some (.int .i64 0) ∧ w'.cell? ⟨wr.heap.size, 2, none⟩ = some (.float .f64 0) ∧ w'.cell? ⟨wr.heap.size, 3, none⟩ = some (.string ⟨#[]⟩) by
          have h := kept hA (heap_alloc_new wr (.cells #[.int .i64 0, .int .i64 0, .float .f64 0, .string ⟨#[]⟩] 61))
          have c0 := cellOf h 0
          have c1 := cellOf h 1
          have c2 := cellOf h 2
          have c3 := cellOf h 3
          simp at c0 c1 c2 c3
          exact ⟨c0, c1, c2, c3⟩)
        have A1 := hid (HI.out.alloc (.cells #[.int .i64 0, .int .i64 0, .float .f64 0, .string ⟨#[]⟩] 61))
        clear c0 c1 c2 c3
        generalize wr.alloc (.cells #[.int .i64 0, .int .i64 0, .float .f64 0, .string ⟨#[]⟩] 61) = wk at *
        generalize wr.heap.size = kb at *
        refine H_begin (S := fun w' => Adds wk w') (by kernel_rfl) ?_
        have hS : Adds wk wk.drew := (Touch.refl _ wk).drew
        refine H_put (i := 0) 20 (v := .agg #[.int .i64 0, .int .i64 0, .float .f64 0, .string ⟨#[]⟩]) rfl rfl (by kernel_rfl) (by kernel_rfl) (by kernel_rfl) (fun _ _ _ h => h) (Or.inl ⟨by rfl, fun w' hw' => ?_⟩) hS ?_
        · obtain ⟨c0, c1, c2, c3⟩ := HB.out w' hw'; go_simp
        simp only [Act.put, List.setIfInBounds_toArray, List.set_cons_zero, List.set_cons_succ]
        refine H_call (i := 1) 21 31 #[.agg #[.int .i64 0, .int .i64 0, .float .f64 0, .string ⟨#[]⟩]] (R := Tells wk.drew (.bool true)) (by kernel_rfl) rfl rfl (by rfl) (by go_simp) ?_ ?_
        · exact valueRight_null _
        rintro e wa ⟨rfl, hwa⟩
        have Awa := hid (Touch.trans hS hwa)
        refine ⟨_, fun w' => Adds wa w', rfl, Touch.refl _ _, fun w' h => Awa.out.trans h, ?_⟩
        clear hS
        have hS : Adds wa wa := Touch.refl _ _
        simp only [Act.put, List.setIfInBounds_toArray, List.set_cons_zero, List.set_cons_succ]
        refine H_put (i := 2) 22 (v := .bool false) rfl rfl (by kernel_rfl) (by kernel_rfl) (by kernel_rfl) (fun _ _ _ h => h) (Or.inl ⟨by rfl, fun w' hw' => ?_⟩) hS ?_
        · go_simp
        simp only [Act.put, List.setIfInBounds_toArray, List.set_cons_zero, List.set_cons_succ]
        refine H_put (i := 3) 23 (v := .bool false) rfl rfl (by kernel_rfl) (by kernel_rfl) (by kernel_rfl) (fun _ _ _ h => h) (Or.inl ⟨by rfl, fun w' hw' => ?_⟩) hS ?_
        · go_simp
        simp only [Act.put, List.setIfInBounds_toArray, List.set_cons_zero, List.set_cons_succ]
        refine H_put (i := 4) 24 (v := .pointer (some ⟨kb, 0, none⟩)) rfl rfl (by kernel_rfl) (by kernel_rfl) (by kernel_rfl) (fun _ _ _ h => h) (Or.inl ⟨by rfl, fun w' hw' => ?_⟩) hS ?_
        · go_simp
        simp only [Act.put, List.setIfInBounds_toArray, List.set_cons_zero, List.set_cons_succ]
        refine H_put (i := 5) 25 (v := .int .i64 0) rfl rfl (by kernel_rfl) (by kernel_rfl) (by kernel_rfl) (fun _ _ _ h => h) (Or.inl ⟨by rfl, fun w' hw' => ?_⟩) hS ?_
        · obtain ⟨c0, c1, c2, c3⟩ := HB.out w' (Awa.out.trans hw'); go_simp
        simp only [Act.put, List.setIfInBounds_toArray, List.set_cons_zero, List.set_cons_succ]
        refine H_put (i := 6) 26 (v := .bool false) rfl rfl (by kernel_rfl) (by kernel_rfl) (by kernel_rfl) (fun _ _ _ h => h) (Or.inl ⟨by rfl, fun w' hw' => ?_⟩) hS ?_
        · go_simp
        simp only [Act.put, List.setIfInBounds_toArray, List.set_cons_zero, List.set_cons_succ]
        refine H_put (i := 7) 27 (v := .bool false) rfl rfl (by kernel_rfl) (by kernel_rfl) (by kernel_rfl) (fun _ _ _ h => h) (Or.inl ⟨by rfl, fun w' hw' => ?_⟩) hS ?_
        · go_simp
        simp only [Act.put, List.setIfInBounds_toArray, List.set_cons_zero, List.set_cons_succ]
        refine H_put (i := 8) 28 (v := undef) rfl rfl (by kernel_rfl) (by kernel_rfl) (by kernel_rfl) (fun _ _ _ h => h) (Or.inr ⟨by rfl, rfl⟩) hS ?_
        simp only [Act.put, List.setIfInBounds_toArray, List.set_cons_zero, List.set_cons_succ]
        refine H_put (i := 9) 29 (v := undef) rfl rfl (by kernel_rfl) (by kernel_rfl) (by kernel_rfl) (fun _ _ _ h => h) (Or.inr ⟨by rfl, rfl⟩) hS ?_
        simp only [Act.put, List.setIfInBounds_toArray, List.set_cons_zero, List.set_cons_succ]
        refine H_put (i := 10) 30 (v := undef) rfl rfl (by kernel_rfl) (by kernel_rfl) (by kernel_rfl) (fun _ _ _ h => h) (Or.inr ⟨by rfl, rfl⟩) hS ?_
        simp only [Act.put, List.setIfInBounds_toArray, List.set_cons_zero, List.set_cons_succ]
        refine H_put (i := 11) 31 (v := undef) rfl rfl (by kernel_rfl) (by kernel_rfl) (by kernel_rfl) (fun _ _ _ h => h) (Or.inr ⟨by rfl, rfl⟩) hS ?_
        simp only [Act.put, List.setIfInBounds_toArray, List.set_cons_zero, List.set_cons_succ]
        refine H_put (i := 12) 32 (v := undef) rfl rfl (by kernel_rfl) (by kernel_rfl) (by kernel_rfl) (fun _ _ _ h => h) (Or.inr ⟨by rfl, rfl⟩) hS ?_
        simp only [Act.put, List.setIfInBounds_toArray, List.set_cons_zero, List.set_cons_succ]
        refine H_put (i := 13) 33 (v := undef) rfl rfl (by kernel_rfl) (by kernel_rfl) (by kernel_rfl) (fun _ _ _ h => h) (Or.inr ⟨by rfl, rfl⟩) hS ?_
        simp only [Act.put, List.setIfInBounds_toArray, List.set_cons_zero, List.set_cons_succ]
        refine H_put (i := 14) 34 (v := undef) rfl rfl (by kernel_rfl) (by kernel_rfl) (by kernel_rfl) (fun _ _ _ h => h) (Or.inr ⟨by rfl, rfl⟩) hS ?_
        simp only [Act.put, List.setIfInBounds_toArray, List.set_cons_zero, List.set_cons_succ]
        refine H_put (i := 15) 35 (v := undef) rfl rfl (by kernel_rfl) (by kernel_rfl) (by kernel_rfl) (fun _ _ _ h => h) (Or.inr ⟨by rfl, rfl⟩) hS ?_
        simp only [Act.put, List.setIfInBounds_toArray, List.set_cons_zero, List.set_cons_succ]
        refine H_put (i := 16) 36 (v := undef) rfl rfl (by kernel_rfl) (by kernel_rfl) (by kernel_rfl) (fun _ _ _ h => h) (Or.inr ⟨by rfl, rfl⟩) hS ?_
        simp only [Act.put, List.setIfInBounds_toArray, List.set_cons_zero, List.set_cons_succ]
        refine H_put (i := 17) 37 (v := .bool false) rfl rfl (by kernel_rfl) (by kernel_rfl) (by kernel_rfl) (fun _ _ _ h => h) (Or.inl ⟨by rfl, fun w' hw' => ?_⟩) hS ?_
        · go_simp
        simp only [Act.put, List.setIfInBounds_toArray, List.set_cons_zero, List.set_cons_succ]
        refine H_put (i := 18) 38 (v := .bool false) rfl rfl (by kernel_rfl) (by kernel_rfl) (by kernel_rfl) (fun _ _ _ h => h) (Or.inl ⟨by rfl, fun w' hw' => ?_⟩) hS ?_
        · go_simp
        simp only [Act.put, List.setIfInBounds_toArray, List.set_cons_zero, List.set_cons_succ]
        refine wpAnyH_done (by kernel_rfl) ?_ _
        clear hS
        go_wp2_with fail
        go_roundw
        case rel => exact ⟨i + 1, by go_num, by omega, A1.out.trans Awa.out⟩
        case measure => simp [intOf]; omega
      · have hltz : ¬ (i : Int) < (m : Int) := by omega
        go_wp2_with fail
        go_ret
        exact ⟨by rw [HD.out]; rfl, HI.out⟩
  · have zn : ((m : Int) == (cs.length : Int)) = false := by rw [beq_eq_false_iff_ne]; omega
    have HD := hid (show decide (m = cs.length) = false from decide_eq_false hn)
    clear hn
    go_enter Try.func14, Try.ntmps14
    go_wp2_with fail
    go_ret
    exact ⟨by rw [HD.out]; rfl, A0.out⟩
end Go.Proofs.Ytlgchdpajfmpdaa
