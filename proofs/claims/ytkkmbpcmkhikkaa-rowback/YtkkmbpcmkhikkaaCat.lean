/- Rows, and lists of rows, put into new memory: Grow, Concat of one. -/
import Derived.Test.YtkkmbpcmkhikkaaDat
namespace Go.Proofs.Ytkkmbpcmkhikkaa
open Go.RowKit

/-- Where cells lie. -/
def CAt (w : World) (a : Option Addr) (xs : List Value) : Prop := ∀ (j : Nat) (u : Value), xs[j]? = some u → ∃ b o, a = some ⟨b, o, none⟩ ∧ w.cell? ⟨b, o + j, none⟩ = some u
theorem CAt.adds {w w' : World} {a : Option Addr} {xs : List Value} (h : CAt w a xs) (hA : Adds w w') : CAt w' a xs := by
  intro j u hj
  obtain ⟨b, o, e, hc⟩ := h j u hj
  exact ⟨b, o, e, by rw [World.cell?_of_block (w := w) (hA.block b (World.block_lt_of_cell? w _ hc) id)]; exact hc⟩
/-- The cells of rows. -/
def SH (l : List Hd) : List Value := l.map Hd.v
/-- The cells of a value. -/
def cells4 (v : M.V) : List Value := [.int .i64 v.k, .int .i64 v.n, .float .f64 v.b, .string ⟨v.t.toArray⟩]
/-- The cells of values. -/
def SV : List M.V → List Value
  | [] => []
  | v :: r => cells4 v ++ SV r
theorem len_SH (l : List Hd) : (SH l).length = l.length * 1 := by simp [SH]
theorem len_SV : ∀ r : List M.V, (SV r).length = r.length * 4
  | [] => rfl
  | v :: r => by simp only [SV, List.length_append, len_SV r, List.length_cons]; simp only [cells4, List.length_cons, List.length_nil]; omega
theorem SV_append : ∀ r s : List M.V, SV (r ++ s) = SV r ++ SV s
  | [], s => rfl
  | v :: r, s => by simp only [List.cons_append, SV, SV_append r s, List.append_assoc]
theorem one_SH (l : List Hd) : ∀ u ∈ SH l, u.oneCell' = true := by
  intro u hu
  obtain ⟨x, _, rfl⟩ := List.mem_map.1 hu
  rfl
theorem one_SV : ∀ r : List M.V, ∀ u ∈ SV r, u.oneCell' = true
  | [], u, hu => by cases hu
  | v :: r, u, hu => by
    rcases List.mem_append.1 hu with h | h
    · simp only [cells4, List.mem_cons, List.not_mem_nil, or_false] at h
      rcases h with rfl | rfl | rfl | rfl <;> rfl
    · exact one_SV r u h
theorem SV_get : ∀ (r : List M.V) (j : Nat) (v : M.V), r[j]? = some v → (SV r)[j * 4]? = some (.int .i64 v.k) ∧ (SV r)[j * 4 + 1]? = some (.int .i64 v.n) ∧ (SV r)[j * 4 + 2]? = some (.float .f64 v.b) ∧ (SV r)[j * 4 + 3]? = some (.string ⟨v.t.toArray⟩)
  | [], j, v, h => by simp at h
  | x :: r, 0, v, h => by
    obtain rfl : x = v := by simpa using h
    exact ⟨rfl, rfl, rfl, rfl⟩
  | x :: r, j + 1, v, h => by
    have ih := SV_get r j v (by simpa using h)
    have e : ∀ k, (SV (x :: r))[(j + 1) * 4 + k]? = (SV r)[j * 4 + k]? := fun k => by
      rw [show (j + 1) * 4 + k = (j * 4 + k) + 4 by omega]; rfl
    exact ⟨(e 0).trans ih.1, (e 1).trans ih.2.1, (e 2).trans ih.2.2.1, (e 3).trans ih.2.2.2⟩
theorem HAt.cells {w : World} {a : Option Addr} {l : List Hd} (h : HAt w a l) : CAt w a (SH l) := by
  intro j u hj
  simp only [SH, List.getElem?_map, Option.map_eq_some_iff] at hj
  obtain ⟨x, hx, rfl⟩ := hj
  exact h j x hx
theorem CAt.rows {w : World} {a : Option Addr} {l : List Hd} (h : CAt w a (SH l)) : HAt w a l := by
  intro j x hx
  exact h j x.v (by simp [SH, hx])
theorem VAt.cells {w : World} {a : Option Addr} {r : List M.V} (h : VAt w a r) : CAt w a (SV r) := by
  intro j u hj
  have hlt : j < (SV r).length := (List.getElem?_eq_some_iff.1 hj).1
  rw [len_SV] at hlt
  obtain ⟨v, hv⟩ : ∃ v, r[j / 4]? = some v := ⟨r[j / 4]'(by omega), List.getElem?_eq_getElem _⟩
  obtain ⟨b, o, e, h0, h1, h2, h3⟩ := h (j / 4) v hv
  obtain ⟨g0, g1, g2, g3⟩ := SV_get r (j / 4) v hv
  refine ⟨b, o, e, ?_⟩
  obtain hm | hm | hm | hm : j = j / 4 * 4 ∨ j = j / 4 * 4 + 1 ∨ j = j / 4 * 4 + 2 ∨ j = j / 4 * 4 + 3 := by omega
  · rw [hm] at hj ⊢; rw [hj] at g0; rw [h0, g0]
  · rw [hm] at hj ⊢; rw [hj] at g1; rw [← Nat.add_assoc, h1, g1]
  · rw [hm] at hj ⊢; rw [hj] at g2; rw [← Nat.add_assoc, h2, g2]
  · rw [hm] at hj ⊢; rw [hj] at g3; rw [← Nat.add_assoc, h3, g3]
theorem CAt.vals {w : World} {a : Option Addr} {r : List M.V} (h : CAt w a (SV r)) : VAt w a r := by
  intro j v hv
  obtain ⟨g0, g1, g2, g3⟩ := SV_get r j v hv
  obtain ⟨b, o, e, h0⟩ := h _ _ g0
  obtain ⟨b1, o1, e1, h1⟩ := h _ _ g1
  obtain ⟨b2, o2, e2, h2⟩ := h _ _ g2
  obtain ⟨b3, o3, e3, h3⟩ := h _ _ g3
  rw [e] at e1 e2 e3
  obtain ⟨rfl, rfl⟩ : b = b1 ∧ o = o1 := by simpa using e1
  obtain ⟨rfl, rfl⟩ : b = b2 ∧ o = o2 := by simpa using e2
  obtain ⟨rfl, rfl⟩ : b = b3 ∧ o = o3 := by simpa using e3
  exact ⟨b, o, e, h0, by rw [Nat.add_assoc]; exact h1, by rw [Nat.add_assoc]; exact h2, by rw [Nat.add_assoc]; exact h3⟩
/-- What an own row's cells are. -/
theorem CAt.own {w : World} {base e size g n cap : Nat} {xs : List Value} (h : w.ownsRow base e size (.slice (some ⟨g, 0, none⟩) n cap) n xs) : CAt w (some ⟨g, 0, none⟩) xs := by
  intro j u hj
  rcases h.2 with ⟨e, _⟩ | ⟨g', cap', cur, e', _, hg, _, _, _, ht⟩
  · cases e
  · obtain ⟨rfl, _⟩ : g = g' ∧ cap = cap' := by simpa using e'
    refine ⟨g, 0, rfl, ?_⟩
    rw [cell_of_row w g (0 + j) cur e _ hg, Nat.zero_add, ← Array.getElem?_toList]
    rw [← ht, List.getElem?_take] at hj
    split at hj
    · exact hj
    · cases hj
/-- What a call that makes a row of its own leaves. -/
def PRow (e size : Nat) (w : World) (n : Nat) (xs : List Value) (r : Ending) (w' : World) : Prop := ∃ v, r = .returned v ∧ Hid (w'.ownsRow w.heap.size e size v n xs ∧ Adds w w')
theorem one_cells {w : World} {a : Option Addr} {xs : List Value} (h : CAt w a xs) (hx : xs ≠ []) : ∃ b o, a = some ⟨b, o, none⟩ := by
  cases xs with
  | nil => exact absurd rfl hx
  | cons u xs => obtain ⟨b, o, e, _⟩ := h 0 u rfl; exact ⟨b, o, e⟩
theorem info30all : ∃ i, Try.prog.info? 30 = some i ∧ i.zero = some (.slice none 0 0) ∧ i.size = 1 ∧ i.bytes = 24 := by
  have h : (Try.prog.info? 30).map (fun i => (i.zero, i.size, i.bytes)) = some (some (.slice none 0 0), 1, 24) := by kernel_rfl
  cases hq : Try.prog.info? 30 with
  | none => rw [hq] at h; cases h
  | some i =>
    rw [hq] at h
    simp only [Option.map_some, Option.some.injEq, Prod.mk.injEq] at h
    exact ⟨i, rfl, h.1, h.2.1, h.2.2⟩
theorem append_r {w : World} {ops : Array Oper} {rest : List Oper} {o : Oper} {act : Act} {Q : Exit → Act → World → Prop} (hgd : o.guard = none) (s x : Operand)
    (ho : o.op = .call { callee := .builtin .append, args := #[s, x], argTypes := #[22, 22] }) (base : Nat) (v : Value) (n : Nat) (xs : List Value) (hs : act.eval s = v) (hown : w.ownsRow base 30 1 v n xs)
    (a : Option Addr) (l : List Hd) (cap : Nat) (hx : act.eval x = .slice a l.length cap) (hcap : a = none → cap = 0) (hA : CAt w a (SH l)) (hlen : n + l.length ≤ 10000000) (hbase : base ≤ w.heap.size)
    (h : ∀ v' w', w'.ownsRow base 30 1 v' (n + l.length) (xs ++ SH l) → w.grownBy w' v.ownBlock → wpList Try.prog ops Q rest (act.put o.dst v') w') : wpList Try.prog ops Q (o :: rest) act w := by
  obtain ⟨i0, hi, hz0, hz1, hz2⟩ := info30all
  cases a with
  | none =>
    obtain rfl := hcap rfl
    obtain rfl : l = [] := by
      cases l with
      | nil => rfl
      | cons c bs =>
        obtain ⟨b, o', e, _⟩ := one_cells hA (by simp [SH])
    exact wpList_append_own_none hgd s x 22 ho base 30 i0 1 Try.underlying22 hi v n xs hs hown hx (h v w (by simpa [SH] using hown) ⟨rfl, rfl, rfl, Nat.le_refl _, fun _ _ _ => rfl⟩)
  | some ad =>
    refine wpList_append_own _ hgd s x 22 ho base 30 i0 (.slice none 0 0) 1 24 Try.underlying22 hi hz0 hz1 hz2 rfl (by decide) v n xs hs hown ad l.length cap (SH l) hx (len_SH l) ?_ (one_SH l) (by unfold maxLen; omega) (by omega) hbase (fun v' w' h1 h2 _ => h v' w' h1 h2)
    intro j u hu
    obtain ⟨b, o', e, hc⟩ := hA j u hu
    obtain rfl : ad = ⟨b, o', none⟩ := by simpa using e
    rw [Addr.add_mid, hc]
set_option maxHeartbeats 400000 in
theorem grow_none_r (w : World) : Calls Try.prog 54 #[.slice none 0 0, .int .i64 0] w fun e w' => e = .returned (.slice none 0 0) ∧ w' = w := by
  go_enter Try.func54, Try.ntmps54
  go_wp2
  go_ret
  exact ⟨rfl, rfl⟩
set_option maxHeartbeats 400000 in
theorem grow_some_r (n : Nat) (hn : 0 < n) (hn2 : n ≤ 10000000) (w : World) : Calls Try.prog 54 #[.slice none 0 0, .int .i64 (n : Int)] w (PRow 30 1 w 0 []) := by
  obtain ⟨i0, hi, hz0, hz1, hz2⟩ := info30all
  have hr := hid (fun ty => Lib.run_append_nil_zeros (P := Try.prog) w 22 3 ty 30 i0 (.slice none 0 0) .i64 .i64 Try.underlying22 Try.underlying3 hi hz0 n hn (by omega) (by omega) (by rw [hz2]; omega))
  clear hi hz0 hz1 hz2
  have hn' : (0 : Int) < (n : Int) := by omega
  go_enter Try.func54, Try.ntmps54
  go_wp2_with (first | (at_builtin; refine Lib.wpList_append_run _ rfl _ _ _ _ rfl _ _ rfl rfl _ _ (hr.out _) ?_))
  go_ret
  refine ⟨.slice (some ⟨w.heap.size, 0, none⟩) 0 (grownCap w n 0 30), rfl, ?_, (Touch.refl _ w).drew.alloc _⟩
  refine World.ownsRow_made (base := w.heap.size) w.drew _ _ (Nat.le_refl _) (grownCap_le_maxLen w n 0 30 (by unfold maxLen; omega)) ?_
  have hz : ∀ k, (Builtin.zeroCells (#[.slice none 0 0] : Array Value) k).size = k * 1 := fun k => by simp [Builtin.zeroCells]
  rw [Array.size_append, hz, hz]
  have := grownCap_ge w n 0 30
  omega
theorem grow_r (n : Nat) (hn : n ≤ 10000000) (w : World) : Calls Try.prog 54 #[.slice none 0 0, .int .i64 (n : Int)] w (PRow 30 1 w 0 []) := by
  rcases Nat.eq_zero_or_pos n with rfl | h0
  · refine (grow_none_r w).mono ?_
    rintro e w' ⟨rfl, rfl⟩
    exact ⟨_, rfl, World.ownsRow_nil _ _ _ _, Touch.refl _ _⟩
  · exact grow_some_r n h0 hn w
set_option maxRecDepth 100000 in
set_option maxHeartbeats 1000000 in
theorem concat_r (p : Nat) (a : Option Addr) (l : List Hd) (cap : Nat) (w : World) (hl : l.length ≤ 1000000) (hc : w.cell? ⟨p, 0, none⟩ = some (.slice a l.length cap)) (hA : CAt w a (SH l)) (hcap : a = none → cap = 0) : Calls Try.prog 36 #[.slice (some ⟨p, 0, none⟩) 1 1] w (PRow 30 1 w l.length (SH l)) := by
  have HA := hid (And.intro hA (And.intro hcap hc))
  have HG := hid (grow_r l.length (by omega) w)
  clear hA hcap
  go_enter Try.func36, Try.ntmps36
  go_wp2_with fail
  go_loopw [3, 11] (fun x i wr => ∃ k : Nat, k ≤ 1 ∧ x = .int .i64 ((k * l.length : Nat) : Int) ∧ i = .int .i64 (k : Int) ∧ wr = w) (fun _ i _ => 1 - (intOf i).toNat)
  case atStart => exact ⟨0, by omega, by simp, rfl, rfl⟩
  case round =>
    obtain ⟨k, hk, rfl, rfl, hw⟩ := hrel
    obtain rfl := hw.symm
    obtain rfl | rfl : k = 0 ∨ k = 1 := by omega
    · simp only [Nat.zero_mul]
      go_wp2_with fail
      go_roundw
      case rel => exact ⟨1, by omega, by simp, rfl, by first | rfl | trivial⟩
      case measure => simp [intOf]
    · simp only [Nat.one_mul]
      clear hc
      go_wp2_with (first | (go_at_call 54; refine HG.out.mono ?_; rintro e w1 ⟨v0, rfl, HQ⟩))
      go_loopw [6, 27] (fun v i wz => ∃ k : Nat, k ≤ 1 ∧ i = .int .i64 (k : Int) ∧ Hid (wz.ownsRow w.heap.size 30 1 v (k * l.length) (if k = 0 then [] else SH l) ∧ Adds w wz)) (fun _ i _ => 1 - (intOf i).toNat)
      case atStart => exact ⟨0, by omega, rfl, by simpa using HQ.out.1, HQ.out.2⟩
      case round =>
        obtain ⟨k, hk, rfl, HI⟩ := hrel
        obtain rfl | rfl : k = 0 ∨ k = 1 := by omega
        · have hc : wr.cell? ⟨p, 0, none⟩ = some (.slice a l.length cap) := by rw [World.cell?_of_block (w := w) (HI.out.2.block p (World.block_lt_of_cell? w _ HA.out.2.2) id)]; exact HA.out.2.2
          have HO := hid (show wr.ownsRow w.heap.size 30 1 u6 0 [] by simpa using HI.out.1)
          go_wp2_with (first
            | (at_builtin; refine append_r rfl _ _ rfl w.heap.size _ 0 [] rfl HO.out a l cap rfl HA.out.2.1 (HA.out.1.adds HI.out.2) (by omega) HI.out.2.size ?_; intro v1 w1 hown1 hgrow1; have HQ1 := hid (And.intro hown1 hgrow1); clear hown1 hgrow1))
          go_roundw
          case rel =>
            refine ⟨1, by omega, by go_num, ?_, ?_⟩
            · have h := HQ1.out.1
              simpa using h
            · exact Touch.grown HI.out.2 HQ1.out.2 (fun j hj hlt => by have := (HO.out.lt j hj).1; omega)
          case measure => simp [intOf]
        · go_wp2_with fail
          go_ret
          exact ⟨_, rfl, by simpa using HI.out.1, HI.out.2⟩
theorem info47all : ∃ i, Try.prog.info? 47 = some i ∧ i.zero = some (.agg #[.int .i64 0, .int .i64 0, .float .f64 0, .string ⟨#[]⟩]) ∧ i.size = 4 ∧ i.bytes = 40 := by
  have h : (Try.prog.info? 47).map (fun i => (i.zero, i.size, i.bytes)) = some (some (.agg #[.int .i64 0, .int .i64 0, .float .f64 0, .string ⟨#[]⟩]), 4, 40) := by kernel_rfl
  cases hq : Try.prog.info? 47 with
  | none => rw [hq] at h; cases h
  | some i =>
    rw [hq] at h
    simp only [Option.map_some, Option.some.injEq, Prod.mk.injEq] at h
    exact ⟨i, rfl, h.1, h.2.1, h.2.2⟩
theorem append_v {w : World} {ops : Array Oper} {rest : List Oper} {o : Oper} {act : Act} {Q : Exit → Act → World → Prop} (hgd : o.guard = none) (s x : Operand)
    (ho : o.op = .call { callee := .builtin .append, args := #[s, x], argTypes := #[30, 30] }) (base : Nat) (v : Value) (n : Nat) (xs : List Value) (hs : act.eval s = v) (hown : w.ownsRow base 47 4 v n xs)
    (a : Option Addr) (l : List M.V) (cap : Nat) (hx : act.eval x = .slice a l.length cap) (hcap : a = none → cap = 0) (hA : CAt w a (SV l)) (hlen : n + l.length ≤ 10000000) (hbase : base ≤ w.heap.size)
    (h : ∀ v' w', w'.ownsRow base 47 4 v' (n + l.length) (xs ++ SV l) → w.grownBy w' v.ownBlock → wpList Try.prog ops Q rest (act.put o.dst v') w') : wpList Try.prog ops Q (o :: rest) act w := by
  obtain ⟨i0, hi, hz0, hz1, hz2⟩ := info47all
  cases a with
  | none =>
    obtain rfl := hcap rfl
    obtain rfl : l = [] := by
      cases l with
      | nil => rfl
      | cons c bs =>
        obtain ⟨b, o', e, _⟩ := one_cells hA (by simp [SV, cells4])
    exact wpList_append_own_none hgd s x 30 ho base 47 i0 4 Try.underlying30 hi v n xs hs hown hx (h v w (by simpa [SV] using hown) ⟨rfl, rfl, rfl, Nat.le_refl _, fun _ _ _ => rfl⟩)
  | some ad =>
    refine wpList_append_own _ hgd s x 30 ho base 47 i0 (.agg #[.int .i64 0, .int .i64 0, .float .f64 0, .string ⟨#[]⟩]) 4 40 Try.underlying30 hi hz0 hz1 hz2 rfl (by decide) v n xs hs hown ad l.length cap (SV l) hx (len_SV l) ?_ (one_SV l) (by unfold maxLen; omega) (by omega) hbase (fun v' w' h1 h2 _ => h v' w' h1 h2)
    intro j u hu
    obtain ⟨b, o', e, hc⟩ := hA j u hu
    obtain rfl : ad = ⟨b, o', none⟩ := by simpa using e
    rw [Addr.add_mid, hc]
set_option maxHeartbeats 400000 in
theorem grow_none_v (w : World) : Calls Try.prog 40 #[.slice none 0 0, .int .i64 0] w fun e w' => e = .returned (.slice none 0 0) ∧ w' = w := by
  go_enter Try.func40, Try.ntmps40
  go_wp2
  go_ret
  exact ⟨rfl, rfl⟩
set_option maxHeartbeats 400000 in
theorem grow_some_v (n : Nat) (hn : 0 < n) (hn2 : n ≤ 10000000) (w : World) : Calls Try.prog 40 #[.slice none 0 0, .int .i64 (n : Int)] w (PRow 47 4 w 0 []) := by
  obtain ⟨i0, hi, hz0, hz1, hz2⟩ := info47all
  have hr := hid (fun ty => Lib.run_append_nil_zeros (P := Try.prog) w 30 3 ty 47 i0 (.agg #[.int .i64 0, .int .i64 0, .float .f64 0, .string ⟨#[]⟩]) .i64 .i64 Try.underlying30 Try.underlying3 hi hz0 n hn (by omega) (by omega) (by rw [hz2]; omega))
  clear hi hz0 hz1 hz2
  have hn' : (0 : Int) < (n : Int) := by omega
  go_enter Try.func40, Try.ntmps40
  go_wp2_with (first | (at_builtin; refine Lib.wpList_append_run _ rfl _ _ _ _ rfl _ _ rfl rfl _ _ (hr.out _) ?_))
  go_ret
  refine ⟨.slice (some ⟨w.heap.size, 0, none⟩) 0 (grownCap w n 0 47), rfl, ?_, (Touch.refl _ w).drew.alloc _⟩
  refine World.ownsRow_made (base := w.heap.size) w.drew _ _ (Nat.le_refl _) (grownCap_le_maxLen w n 0 47 (by unfold maxLen; omega)) ?_
  have hz : ∀ k, (Builtin.zeroCells (#[.int .i64 0, .int .i64 0, .float .f64 0, .string ⟨#[]⟩] : Array Value) k).size = k * 4 := fun k => by simp [Builtin.zeroCells]
  rw [Array.size_append, hz, hz]
  have := grownCap_ge w n 0 47
  omega
theorem grow_v (n : Nat) (hn : n ≤ 10000000) (w : World) : Calls Try.prog 40 #[.slice none 0 0, .int .i64 (n : Int)] w (PRow 47 4 w 0 []) := by
  rcases Nat.eq_zero_or_pos n with rfl | h0
  · refine (grow_none_v w).mono ?_
    rintro e w' ⟨rfl, rfl⟩
    exact ⟨_, rfl, World.ownsRow_nil _ _ _ _, Touch.refl _ _⟩
  · exact grow_some_v n h0 hn w
set_option maxRecDepth 100000 in
set_option maxHeartbeats 1000000 in
theorem concat_v (p : Nat) (a : Option Addr) (l : List M.V) (cap : Nat) (w : World) (hl : l.length ≤ 1000000) (hc : w.cell? ⟨p, 0, none⟩ = some (.slice a l.length cap)) (hA : CAt w a (SV l)) (hcap : a = none → cap = 0) : Calls Try.prog 22 #[.slice (some ⟨p, 0, none⟩) 1 1] w (PRow 47 4 w l.length (SV l)) := by
  have HA := hid (And.intro hA (And.intro hcap hc))
  have HG := hid (grow_v l.length (by omega) w)
  clear hA hcap
  go_enter Try.func22, Try.ntmps22
  go_wp2_with fail
  go_loopw [3, 11] (fun x i wr => ∃ k : Nat, k ≤ 1 ∧ x = .int .i64 ((k * l.length : Nat) : Int) ∧ i = .int .i64 (k : Int) ∧ wr = w) (fun _ i _ => 1 - (intOf i).toNat)
  case atStart => exact ⟨0, by omega, by simp, rfl, rfl⟩
  case round =>
    obtain ⟨k, hk, rfl, rfl, hw⟩ := hrel
    obtain rfl := hw.symm
    obtain rfl | rfl : k = 0 ∨ k = 1 := by omega
    · simp only [Nat.zero_mul]
      go_wp2_with fail
      go_roundw
      case rel => exact ⟨1, by omega, by simp, rfl, by first | rfl | trivial⟩
      case measure => simp [intOf]
    · simp only [Nat.one_mul]
      clear hc
      go_wp2_with (first | (go_at_call 40; refine HG.out.mono ?_; rintro e w1 ⟨v0, rfl, HQ⟩))
      go_loopw [6, 27] (fun v i wz => ∃ k : Nat, k ≤ 1 ∧ i = .int .i64 (k : Int) ∧ Hid (wz.ownsRow w.heap.size 47 4 v (k * l.length) (if k = 0 then [] else SV l) ∧ Adds w wz)) (fun _ i _ => 1 - (intOf i).toNat)
      case atStart => exact ⟨0, by omega, rfl, by simpa using HQ.out.1, HQ.out.2⟩
      case round =>
        obtain ⟨k, hk, rfl, HI⟩ := hrel
        obtain rfl | rfl : k = 0 ∨ k = 1 := by omega
        · have hc : wr.cell? ⟨p, 0, none⟩ = some (.slice a l.length cap) := by rw [World.cell?_of_block (w := w) (HI.out.2.block p (World.block_lt_of_cell? w _ HA.out.2.2) id)]; exact HA.out.2.2
          have HO := hid (show wr.ownsRow w.heap.size 47 4 u6 0 [] by simpa using HI.out.1)
          go_wp2_with (first
            | (at_builtin; refine append_v rfl _ _ rfl w.heap.size _ 0 [] rfl HO.out a l cap rfl HA.out.2.1 (HA.out.1.adds HI.out.2) (by omega) HI.out.2.size ?_; intro v1 w1 hown1 hgrow1; have HQ1 := hid (And.intro hown1 hgrow1); clear hown1 hgrow1))
          go_roundw
          case rel =>
            refine ⟨1, by omega, by go_num, ?_, ?_⟩
            · have h := HQ1.out.1
              simpa using h
            · exact Touch.grown HI.out.2 HQ1.out.2 (fun j hj hlt => by have := (HO.out.lt j hj).1; omega)
          case measure => simp [intOf]
        · go_wp2_with fail
          go_ret
          exact ⟨_, rfl, by simpa using HI.out.1, HI.out.2⟩
end Go.Proofs.Ytkkmbpcmkhikkaa
