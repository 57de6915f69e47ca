/- The reference's Taken and Bytes. -/
import Derived.Test.YtjlennpoaefllaaGreatDoorQ07
import Derived.Deep.CutBlock
import Derived.Deep.DeepCutAuto
namespace Go.Proofs.YtjlennpoaefllaaGreatDoor
open Go.RowKit

set_option maxRecDepth 100000 in
set_option maxHeartbeats 1000000 in
theorem rtaken_any {Q : Nat → Prop} (a : Option Addr) (hs : List Part) (n cap : Nat) (hn : hs.length = n) (w : World) (h : GQ w Q ⟨a, cap, hs⟩) (tk : Nat) (htk : tk = M.taken (hs.map (·.bs))) (hl : tk ≤ 1000000000000000) : Calls Tryz.prog 88 #[.slice a n cap] w (Tells (.int .i64 (tk : Int)) w) := by
  have HG := hid h
  have HN := hid hn
  have HT := hid htk
  have hn2 : n ≤ tk := by rw [htk, ← hn, ← List.length_map (f := (·.bs))]; unfold M.taken; omega
  clear h hn htk
  go_enter Tryz.func88, Tryz.ntmps88
  go_wp2_with fail
  go_loopw [3, 4] (fun r i wr => ∃ (k t : Nat), k ≤ n ∧ t ≤ tk ∧ i = .int .i64 (k : Int) ∧ r = .int .i64 (t : Int) ∧ Hid (t = M.taken ((hs.map (·.bs)).take k)) ∧ wr = w) (fun _ i _ => n - (intOf i).toNat)
  case atStart => exact ⟨0, 0, Nat.zero_le _, Nat.zero_le _, rfl, rfl, rfl, rfl⟩
  case round =>
    obtain ⟨k, t, hk, ht, rfl, rfl, HI, hw⟩ := hrel
    obtain rfl := hw.symm
    by_cases hlt : k < n
    · obtain ⟨y, b, o, hy, hq, ha, hc⟩ := part_get HG.out (k := k) (by rw [HN.out]; exact hlt)
      have ha' : a = some ⟨b, o, none⟩ := ha
      subst ha'
      have HY := hid (taken_next hy)
      obtain ⟨yl, hyl0⟩ : ∃ yl, yl = y.bs.length := ⟨_, rfl⟩
      rw [← hyl0] at hc HY
      have hle : t + (2 + yl) ≤ tk := by
        have h2 := taken_le (hs.map (·.bs)) (k + 1)
        have h3 : M.taken ((hs.map (·.bs)).take (k + 1)) = M.taken ((hs.map (·.bs)).take k) + (2 + yl) := HY.out
        have h4 := HI.out
        have h5 := HT.out
        omega
      clear hy hq ha hyl0
      go_wp2_with fail
      go_roundw
      case rel => exact ⟨k + 1, t + (2 + yl), by omega, by omega, by go_num, by go_num, hid (by rw [HY.out, ← HI.out]), by first | rfl | trivial⟩
      case measure => simp [intOf]; omega
    · obtain rfl : n = k := by omega
      have HE := hid (show t = tk by rw [HI.out, List.take_of_length_le (by rw [List.length_map, HN.out]; exact Nat.le_refl _), HT.out])
      go_wp2_with fail
      go_ret
      exact ⟨by rw [← HE.out]; rfl, rfl⟩
/-- Bytes put behind a row of one's own, where the operation stands alone. -/
theorem wp_append_m {w : World} {o : Oper} {act : Act} {K : Act → World → Prop} {Q : Exit → Act → World → Prop} (s x : Operand)
    (ho : o.op = .call { callee := .builtin .append, args := #[s, x], argTypes := #[43, 43] }) (base : Nat) (v : Value) (n : Nat) (xs : List Value) (hs : act.eval s = v) (hown : w.ownsRow base 5 1 v n xs)
    (a : Option Addr) (bs : List UInt8) (m cap : Nat) (hm : bs.length = m) (hx : act.eval x = .slice a m cap) (hcap : a = none → cap = 0) (hA : At w a bs) (hlen : n + m ≤ 1000000000) (hbase : base ≤ w.heap.size)
    (h : ∀ v' w', w'.ownsRow base 5 1 v' (n + m) (xs ++ S bs) → w.grownBy w' v.ownBlock → K (act.put o.dst v') w') : o.wp Tryz.prog act w K Q := by
  obtain ⟨i0, hi, hz0, hz1, hz2⟩ := info5all
  cases a with
  | none =>
    obtain rfl := hcap rfl
    obtain rfl : bs = [] := by
      cases bs with
      | nil => rfl
      | cons c bs => obtain ⟨b, o', e, _⟩ := hA 0 c rfl; cases e
    obtain rfl : m = 0 := by rw [← hm]; rfl
    have hrun := run_append_owned_none (P := Tryz.prog) (w := w) base 43 o.type 5 i0 1 Tryz.underlying43 hi v n xs hown
    unfold Oper.wp
    simp [execOp, ho, resolve, invoke, builtin, hs, hx, hrun, Result.andThen]
    exact h v w (by simpa [S] using hown) ⟨rfl, rfl, rfl, Nat.le_refl _, fun _ _ _ => rfl⟩
  | some ad =>
    obtain ⟨v', w', hr, h2, h3, _, _⟩ := run_append_own_at (P := Tryz.prog) w base 43 o.type 5 i0 (.int .u8 0) 1 1 Tryz.underlying43 hi hz0 hz1 hz2 rfl (by decide) v n xs hown ad m cap (S bs) (by rw [length_S]; omega) (by
      intro j y hj
      rw [S_get] at hj
      obtain ⟨c, hc, rfl⟩ := Option.map_eq_some_iff.1 hj
      obtain ⟨b, o', e, h1⟩ := hA j c hc
      obtain rfl : ad = ⟨b, o', none⟩ := by simpa using e
      rw [Addr.add_mid]; exact h1) (one_S bs) (by unfold maxLen; omega) (by omega) hbase
    unfold Oper.wp execOp
    simp only [ho, resolve, invoke, builtin, Sem.run_bind, Sem.run_pure, Result.andThen_ok, List.map_toArray, List.map_cons, List.map_nil, hs, hx, hr]
    exact h v' w' h2 h3
theorem append_m {w : World} {ops : Array Oper} {rest : List Oper} {o : Oper} {act : Act} {Q : Exit → Act → World → Prop} (hgd : o.guard = none) (s x : Operand)
    (ho : o.op = .call { callee := .builtin .append, args := #[s, x], argTypes := #[43, 43] }) (base : Nat) (v : Value) (n : Nat) (xs : List Value) (hs : act.eval s = v) (hown : w.ownsRow base 5 1 v n xs)
    (a : Option Addr) (bs : List UInt8) (m cap : Nat) (hm : bs.length = m) (hx : act.eval x = .slice a m cap) (hcap : a = none → cap = 0) (hA : At w a bs) (hlen : n + m ≤ 1000000000) (hbase : base ≤ w.heap.size)
    (h : ∀ v' w', w'.ownsRow base 5 1 v' (n + m) (xs ++ S bs) → w.grownBy w' v.ownBlock → wpList Tryz.prog ops Q rest (act.put o.dst v') w') : wpList Tryz.prog ops Q (o :: rest) act w :=
  wpList_plain hgd fun _ hK => wp_append_m s x ho base v n xs hs hown a bs m cap hm hx hcap hA hlen hbase (fun v' w' h1 h2 => hK _ _ (h v' w' h1 h2))
theorem At.two0 (w : World) (c d : UInt8) : At (w.alloc (.cells #[.int .u8 (c.toNat : Int), .int .u8 (d.toNat : Int)] 5)) (some ⟨w.heap.size, 0, none⟩) [c, d] := by
  intro j x hj
  refine ⟨_, _, rfl, ?_⟩
  rw [cell_of_row _ _ _ _ _ _ (heap_alloc_new w _)]
  match j, hj with
  | 0, hj => obtain rfl : c = x := Option.some.inj hj; rfl
  | 1, hj => obtain rfl : d = x := Option.some.inj hj; rfl
  | j + 2, hj => simp at hj
/-- What the reference's Fixed tells. -/
def PFixR (w : World) (n k : Nat) (e : Ending) (w' : World) : Prop := ∃ va vc, e = .returned (.slice va k vc) ∧ Hid (w'.ownsRow w.heap.size 5 1 (.slice va k vc) k (S (M.fix n k)) ∧ (va = none → vc = 0) ∧ Adds w w')
theorem rfixK (n k : Nat) (hn : n < 18446744073709551616) (z : Int) (hz : M.clamp z = k) (w : World) : Calls Tryz.prog 89 #[.int .u64 (n : Int), .int .i64 z] w (PFixR w n k) := by
  refine (rfixedp_any n hn z w).mono ?_
  rintro e w' ⟨v, rfl, h1, h2⟩
  rw [hz, M.len_fix] at h1
  obtain ⟨va, vc, rfl, _, hn, _⟩ := own_cq h1
  exact ⟨va, vc, rfl, h1, hn, h2⟩
theorem row_at {w : World} {base n cap : Nat} {a : Option Addr} {bs : List UInt8} (h : w.ownsRow base 5 1 (.slice a n cap) n (S bs)) : At w a bs := by
  obtain ⟨a', c', e, _, _, hq⟩ := own_cq h
  cases e
  exact hq.at
/-- A row of bytes in new memory, beside a box. -/
structure RowN (w0 w : World) (v : Value) (n : Nat) (bs : List UInt8) : Prop where
  row : w.ownsRow (w0.heap.size + 1) 5 1 v n (S bs)
  len : bs.length = n
  adds : Adds w0 w
  low : w0.heap.size + 1 ≤ w.heap.size
theorem RowN.grow {w0 w w' : World} {v v' : Value} {bs cs : List UInt8} {n m : Nat} (h : RowN w0 w v n bs) {w1 : World} (hA : Adds w w1) (hm : cs.length = m) (hown : w'.ownsRow (w0.heap.size + 1) 5 1 v' (n + m) (S bs ++ S cs)) (hg : w1.grownBy w' v.ownBlock) : RowN w0 w' v' (n + m) (bs ++ cs) ∧ Touch (fun k => w0.heap.size + 1 ≤ k) w1 w' := by
  have hT : Touch (fun k => w0.heap.size + 1 ≤ k) w1 w' := Touch.grown (T := fun k => w0.heap.size + 1 ≤ k) (Touch.refl _ _) hg (fun k hk _ => (row_low h.row hk).1)
  refine ⟨⟨?_, by rw [List.length_append, h.len, hm], Touch.grown (h.adds.trans hA) hg (fun k hk hlt => by have := (row_low h.row hk).1; omega), by have h1 := h.low; have h2 := hA.size; have h3 := hT.size; omega⟩, hT⟩
  simp only [S, List.map_append]
  exact hown
theorem RowN.own {w0 w w1 : World} {v : Value} {bs : List UInt8} {n : Nat} (h : RowN w0 w v n bs) (hA : Adds w w1) : w1.ownsRow (w0.heap.size + 1) 5 1 v n (S bs) := row_touch h.row hA (fun _ _ => id)
theorem RowN.lo {w0 w w1 : World} {v : Value} {bs : List UInt8} {n : Nat} (h : RowN w0 w v n bs) (hA : Adds w w1) : w0.heap.size + 1 ≤ w1.heap.size := Nat.le_trans h.low hA.size
theorem RowN.slice {w0 w : World} {v : Value} {bs : List UInt8} {n : Nat} (h : RowN w0 w v n bs) : ∃ a c, v = .slice a n c := by
  obtain ⟨a, c, e, _⟩ := own_cq h.row
  exact ⟨a, c, e⟩
/-- How long a slice is. -/
def lenV : Value → Nat
  | .slice _ n _ => n
  | _ => 0
/-- What stands ahead of the ends. -/
theorem phead_eq (no : Nat) (kd : UInt8) (n E : Nat) : M.hd6 no kd n ++ M.fix E 2 = M.phead no kd n E := by
  rw [M.hd6, M.phead, List.append_assoc]; rfl
theorem ends_nx {cs : List (List UInt8)} {k : Nat} {c : List UInt8} (hc : cs[k]? = some c) : M.ends 0 (cs.take (k + 1)) = M.ends 0 (cs.take k) ++ M.fix (cs.take (k + 1)).flatten.length 2 := by
  rw [M.flat_nx hc, List.length_append]
  conv => lhs; rw [List.take_add_one, hc]
  show M.ends 0 (_ ++ [c]) = _
  rw [M.ends_snoc, Nat.zero_add]
theorem bytes_end (no : Nat) (kd : UInt8) (cs : List (List UInt8)) (h : M.taken cs ≤ 244) : (M.phead no kd cs.length cs.flatten.length ++ M.ends 0 cs ++ cs.flatten) ++ List.replicate (248 - M.taken cs) 0 = M.pbytes ⟨no, kd, cs⟩ := by
  rw [M.pbytes, M.pfirst, M.room]
  simp only [List.append_assoc]
  congr 4
  rw [show [(0 : UInt8), 0, 0, 0] = List.replicate 4 0 from rfl, List.replicate_append_replicate]
  congr 1
  omega
set_option maxRecDepth 100000 in
set_option maxHeartbeats 2000000 in
theorem rbytes_any {Q : Nat → Prop} (no : Nat) (kd : UInt8) (a : Option Addr) (hs : List Part) (n cap : Nat) (hn : hs.length = n) (w : World) (h : GQ w Q ⟨a, cap, hs⟩) (hno : no < 2147483648) (ht : M.taken (hs.map (·.bs)) ≤ 244) :
    Calls Tryz.prog 52 #[.agg #[.int .i64 (no : Int), .int .u8 (kd.toNat : Int), .slice a n cap]] w (fun e w' => ∃ ra rc, e = .returned (.slice ra 256 rc) ∧ Hid (w'.ownsRow (w.heap.size + 1) 5 1 (.slice ra 256 rc) 256 (S (M.pbytes ⟨no, kd, hs.map (·.bs)⟩)) ∧ Adds w w')) := by
  obtain ⟨cs, hcs⟩ : ∃ cs, cs = hs.map (·.bs) := ⟨_, rfl⟩
  have hcl : cs.length = n := by rw [hcs, List.length_map, hn]
  obtain ⟨tk, htk⟩ : ∃ tk, tk = M.taken (hs.map (·.bs)) := ⟨_, rfl⟩
  have HTk := hid htk
  rw [← hcs] at ht ⊢
  obtain ⟨E, hE⟩ : ∃ E, E = cs.flatten.length := ⟨_, rfl⟩
  have ht2 : tk = 2 * n + E := by rw [htk, ← hcs, M.taken, hcl, hE]
  have htk244 : tk ≤ 244 := by rw [htk, ← hcs]; exact ht
  obtain ⟨m, hm⟩ : ∃ m, m = 2 * n := ⟨_, rfl⟩
  have hwm : IntKind.i64.wrap (2 * (n : Int)) = (m : Int) := by rw [IntKind.wrap_i64]; omega
  have hwE : IntKind.i64.wrap ((tk : Int) - (m : Int)) = (E : Int) := by rw [IntKind.wrap_i64]; omega
  have hwE2 : IntKind.u64.wrap (E : Int) = (E : Int) := by show (E : Int) % 18446744073709551616 = _; omega
  obtain ⟨cb, hcb⟩ : ∃ cb, cb = UInt8.ofNat n := ⟨_, rfl⟩
  have hcb2 : IntKind.u8.wrap (n : Int) = (cb.toNat : Int) := by rw [hcb, M.ofNat_toNat _ (by omega)]; show (n : Int) % 256 = _; omega
  have hwn : IntKind.u64.wrap (no : Int) = (no : Int) := by show (no : Int) % 18446744073709551616 = _; omega
  have HG := hid h
  have HC := hid (And.intro hcs (And.intro hcl (And.intro ht (And.intro hcb hn))))
  have HE := hid (And.intro hE ht2)
  have HF4 := hid (fun w1 => rfixK no 4 (by omega) 4 (by decide) w1)
  have hE244 : E ≤ 244 := by omega
  have hn122 : n ≤ 122 := by omega
  clear h hcs hcl ht hcb hn htk hE ht2 hm
  go_enter Tryz.func52, Tryz.ntmps52
  go_upto_region 1 with fail
  obtain ⟨wA, hwA⟩ : ∃ wA, wA = w.alloc (Obj.cells #[Value.int IntKind.i64 (no : Int), Value.int IntKind.u8 (kd.toNat : Int), Value.slice a n cap] 104) := ⟨_, rfl⟩
  have HA := hid (show Adds w wA by rw [hwA]; exact (Touch.refl _ w).alloc _)
  have HB := hid (show wA.heap[w.heap.size]? = some (Obj.cells #[Value.int IntKind.i64 (no : Int), Value.int IntKind.u8 (kd.toNat : Int), Value.slice a n cap] 104 (0, 0)) by rw [hwA]; exact heap_alloc_new w _)
  have HAs := hid (show w.heap.size + 1 ≤ wA.heap.size by rw [hwA]; simp)
  rw [← hwA]
  clear hwA
  obtain ⟨B, hB⟩ : ∃ B, B = w.heap.size := ⟨_, rfl⟩
  have HB0 := hid hB
  rw [← hB] at HB ⊢
  clear hB
  refine H_begin (S := fun (w' : World) => w'.heap[B]? = some (.cells #[.int .i64 (no : Int), .int .u8 (kd.toNat : Int), .slice a n cap] 104 (0, 0))) (by kernel_rfl) ?_
  have hS : (fun (w' : World) => w'.heap[B]? = some (.cells #[.int .i64 (no : Int), .int .u8 (kd.toNat : Int), .slice a n cap] 104 (0, 0))) wA.drew := HB.out
  refine H_put (i := 0) 8 (v := .pointer (some ⟨B, 2, none⟩)) rfl rfl (by kernel_rfl) (by kernel_rfl) (by kernel_rfl) (fun _ _ _ h => h) (Or.inl ⟨by rfl, fun w' hw' => ?_⟩) hS ?_
  · go_simp
  simp only [Act.put, List.setIfInBounds_toArray, List.set_cons_zero, List.set_cons_succ]
  refine H_put (i := 1) 9 (v := .slice a n cap) rfl rfl (by kernel_rfl) (by kernel_rfl) (by kernel_rfl) (fun _ _ _ h => h) (Or.inl ⟨by rfl, fun w' hw' => ?_⟩) hS ?_
  · have c : w'.cell? ⟨B, 2, none⟩ = some (.slice a n cap) := cellOf (hw') 2; go_simp
  simp only [Act.put, List.setIfInBounds_toArray, List.set_cons_zero, List.set_cons_succ]
  refine H_put (i := 3) 11 (v := .pointer (some ⟨B, 2, none⟩)) rfl rfl (by kernel_rfl) (by kernel_rfl) (by kernel_rfl) (fun _ _ _ h => h) (Or.inl ⟨by rfl, fun w' hw' => ?_⟩) hS ?_
  · go_simp
  simp only [Act.put, List.setIfInBounds_toArray, List.set_cons_zero, List.set_cons_succ]
  refine H_put (i := 4) 12 (v := .slice a n cap) rfl rfl (by kernel_rfl) (by kernel_rfl) (by kernel_rfl) (fun _ _ _ h => h) (Or.inl ⟨by rfl, fun w' hw' => ?_⟩) hS ?_
  · have c : w'.cell? ⟨B, 2, none⟩ = some (.slice a n cap) := cellOf (hw') 2; go_simp
  simp only [Act.put, List.setIfInBounds_toArray, List.set_cons_zero, List.set_cons_succ]
  refine H_put (i := 5) 13 (v := .int .i64 (n : Int)) rfl rfl (by kernel_rfl) (by kernel_rfl) (by kernel_rfl) (fun _ _ _ h => h) (Or.inl ⟨by rfl, fun w' hw' => ?_⟩) hS ?_
  · go_simp
  simp only [Act.put, List.setIfInBounds_toArray, List.set_cons_zero, List.set_cons_succ]
  refine H_put (i := 6) 14 (v := .int .i64 (m : Int)) rfl rfl (by kernel_rfl) (by kernel_rfl) (by kernel_rfl) (fun _ _ _ h => h) (Or.inl ⟨by rfl, fun w' hw' => ?_⟩) hS ?_
  · go_simp
  simp only [Act.put, List.setIfInBounds_toArray, List.set_cons_zero, List.set_cons_succ]
  refine H_call (i := 2) 10 88 #[.slice a n cap] (R := Tells (.int .i64 (tk : Int)) wA.drew) (by kernel_rfl) rfl rfl (by rfl) (by go_simp) ?_ ?_
  · exact rtaken_any a hs n cap HC.out.2.2.2.2 wA.drew (HG.out.adds (HA.out.trans ((Touch.refl _ wA).drew))) tk HTk.out (by omega)
  rintro e w1 ⟨rfl, hw1⟩
  subst hw1
  have hS2 : (fun (w' : World) => w'.heap[B]? = some (.cells #[.int .i64 (no : Int), .int .u8 (kd.toNat : Int), .slice a n cap] 104 (0, 0))) _ := HB.out
  refine ⟨_, _, rfl, hS2, fun w' h => h, ?_⟩
  clear hS; have hS := hS2; clear hS2
  simp only [Act.put, List.setIfInBounds_toArray, List.set_cons_zero, List.set_cons_succ]
  refine H_put (i := 7) 15 (v := .int .i64 (E : Int)) rfl rfl (by kernel_rfl) (by kernel_rfl) (by kernel_rfl) (fun _ _ _ h => h) (Or.inl ⟨by rfl, fun w' hw' => ?_⟩) hS ?_
  · go_simp
  simp only [Act.put, List.setIfInBounds_toArray, List.set_cons_zero, List.set_cons_succ]
  refine H_put (i := 8) 3 (v := .int .i64 (E : Int)) rfl rfl (by kernel_rfl) (by kernel_rfl) (by kernel_rfl) (fun _ _ _ h => h) (Or.inl ⟨by rfl, fun w' hw' => ?_⟩) hS ?_
  · go_simp
  simp only [Act.put, List.setIfInBounds_toArray, List.set_cons_zero, List.set_cons_succ]
  refine wpAnyH_done (by kernel_rfl) ?_ _
  have A2 := hid (show Adds w wA.drew from HA.out.drew)
  have B2 := hid (show wA.drew.heap[B]? = some (.cells #[.int .i64 (no : Int), .int .u8 (kd.toNat : Int), .slice a n cap] 104 (0, 0)) from HB.out)
  have Z2 := hid (show w.heap.size + 1 ≤ wA.drew.heap.size from HAs.out)
  generalize wA.drew = w2 at A2 B2 Z2 ⊢
  clear hS HB HAs hwm hwE HA
  go_upto_region 2 with fail
  go_cut [4] (fun v4 wx => ∃ (va : Option Addr) (vc : Nat), v4 = .slice va 6 vc ∧ Hid (RowN w wx (.slice va 6 vc) 6 (M.hd6 no kd n) ∧ wx.heap[B]? = some (.cells #[.int .i64 (no : Int), .int .u8 (kd.toNat : Int), .slice a n cap] 104 (0, 0))))
  case first =>
    refine H_begin (S := fun (w' : World) => w'.heap[B]? = some (.cells #[.int .i64 (no : Int), .int .u8 (kd.toNat : Int), .slice a n cap] 104 (0, 0))) (by kernel_rfl) ?_
    have hS : (fun (w' : World) => w'.heap[B]? = some (.cells #[.int .i64 (no : Int), .int .u8 (kd.toNat : Int), .slice a n cap] 104 (0, 0))) w2.drew := B2.out
    refine H_put (i := 0) 16 (v := .pointer (some ⟨B, 0, none⟩)) rfl rfl (by kernel_rfl) (by kernel_rfl) (by kernel_rfl) (fun _ _ _ h => h) (Or.inl ⟨by rfl, fun w' hw' => ?_⟩) hS ?_
    · go_simp
    simp only [Act.put, List.setIfInBounds_toArray, List.set_cons_zero, List.set_cons_succ]
    refine H_put (i := 1) 17 (v := .int .i64 (no : Int)) rfl rfl (by kernel_rfl) (by kernel_rfl) (by kernel_rfl) (fun _ _ _ h => h) (Or.inl ⟨by rfl, fun w' hw' => ?_⟩) hS ?_
    · have c : w'.cell? ⟨B, 0, none⟩ = some (.int .i64 (no : Int)) := cellOf (hw') 0; go_simp
    simp only [Act.put, List.setIfInBounds_toArray, List.set_cons_zero, List.set_cons_succ]
    refine H_put (i := 2) 18 (v := .int .u64 (no : Int)) rfl rfl (by kernel_rfl) (by kernel_rfl) (by kernel_rfl) (fun _ _ _ h => h) (Or.inl ⟨by rfl, fun w' hw' => ?_⟩) hS ?_
    · go_simp
    simp only [Act.put, List.setIfInBounds_toArray, List.set_cons_zero, List.set_cons_succ]
    refine H_put (i := 4) 20 (v := .pointer (some ⟨B, 1, none⟩)) rfl rfl (by kernel_rfl) (by kernel_rfl) (by kernel_rfl) (fun _ _ _ h => h) (Or.inl ⟨by rfl, fun w' hw' => ?_⟩) hS ?_
    · go_simp
    simp only [Act.put, List.setIfInBounds_toArray, List.set_cons_zero, List.set_cons_succ]
    refine H_put (i := 5) 21 (v := .int .u8 (kd.toNat : Int)) rfl rfl (by kernel_rfl) (by kernel_rfl) (by kernel_rfl) (fun _ _ _ h => h) (Or.inl ⟨by rfl, fun w' hw' => ?_⟩) hS ?_
    · have c : w'.cell? ⟨B, 1, none⟩ = some (.int .u8 (kd.toNat : Int)) := cellOf (hw') 1; go_simp
    simp only [Act.put, List.setIfInBounds_toArray, List.set_cons_zero, List.set_cons_succ]
    refine H_put (i := 6) 22 (v := .pointer (some ⟨B, 2, none⟩)) rfl rfl (by kernel_rfl) (by kernel_rfl) (by kernel_rfl) (fun _ _ _ h => h) (Or.inl ⟨by rfl, fun w' hw' => ?_⟩) hS ?_
    · go_simp
    simp only [Act.put, List.setIfInBounds_toArray, List.set_cons_zero, List.set_cons_succ]
    refine H_put (i := 7) 23 (v := .slice a n cap) rfl rfl (by kernel_rfl) (by kernel_rfl) (by kernel_rfl) (fun _ _ _ h => h) (Or.inl ⟨by rfl, fun w' hw' => ?_⟩) hS ?_
    · have c : w'.cell? ⟨B, 2, none⟩ = some (.slice a n cap) := cellOf (hw') 2; go_simp
    simp only [Act.put, List.setIfInBounds_toArray, List.set_cons_zero, List.set_cons_succ]
    refine H_put (i := 8) 24 (v := .int .i64 (n : Int)) rfl rfl (by kernel_rfl) (by kernel_rfl) (by kernel_rfl) (fun _ _ _ h => h) (Or.inl ⟨by rfl, fun w' hw' => ?_⟩) hS ?_
    · go_simp
    simp only [Act.put, List.setIfInBounds_toArray, List.set_cons_zero, List.set_cons_succ]
    refine H_put (i := 9) 25 (v := .int .u8 (cb.toNat : Int)) rfl rfl (by kernel_rfl) (by kernel_rfl) (by kernel_rfl) (fun _ _ _ h => h) (Or.inl ⟨by rfl, fun w' hw' => ?_⟩) hS ?_
    · go_simp
    simp only [Act.put, List.setIfInBounds_toArray, List.set_cons_zero, List.set_cons_succ]
    refine wpAnyH_all (rs := [3, 10]) (by kernel_rfl) (by simp) (fun j hj => ?_)
    rcases List.mem_cons.1 hj with rfl | hj
    · skip
      refine O_call (i := 3) 19 89 #[.int .u64 (no : Int), .int .i64 4] rfl rfl (by rfl) (by go_simp) (HF4.out w2.drew) ?_
      rintro e w3 ⟨va, vc, rfl, H3⟩
      have A3 := hid (show Adds w2 w3 from Touch.trans ((Touch.refl _ w2).drew) H3.out.2.2)
      refine ⟨_, fun (w' : World) => w'.heap[B]? = some (.cells #[.int .i64 (no : Int), .int .u8 (kd.toNat : Int), .slice a n cap] 104 (0, 0)), rfl, Touch.at' A3.out B2.out id, fun w' h => h, ?_⟩
      clear hS
      have hS : (fun (w' : World) => w'.heap[B]? = some (.cells #[.int .i64 (no : Int), .int .u8 (kd.toNat : Int), .slice a n cap] 104 (0, 0))) w3 := Touch.at' A3.out B2.out id
      simp only [Act.put, List.setIfInBounds_toArray, List.set_cons_zero, List.set_cons_succ]
      refine H_do (i := 10) (some 26) (by kernel_rfl) rfl rfl (by rfl) (fun K hK => ?_)
      go_simp
      have hS2 : (fun (w' : World) => w'.heap[B]? = some (.cells #[.int .i64 (no : Int), .int .u8 (kd.toNat : Int), .slice a n cap] 104 (0, 0))) _ := ((Touch.refl (fun _ => False) w3).alloc (.cells #[.int .u8 (kd.toNat : Int), .int .u8 (cb.toNat : Int)] 5)).at' hS id
      refine hK (.slice (some ⟨w3.heap.size, 0, none⟩) 2 2) _ hS2 ?_
      clear hK K hS; have hS := hS2; clear hS2
      simp only [Act.put, List.setIfInBounds_toArray, List.set_cons_zero, List.set_cons_succ]
      refine H_do (i := 11) (some 27) (by kernel_rfl) rfl rfl (by rfl) (fun K hK => ?_)
      refine wp_append_m (.tmp 19) (.tmp 26) rfl (w.heap.size + 1) (.slice va 4 vc) 4 (S (M.fix no 4)) rfl (row_touch (row_base H3.out.1 (fun j hj => by have h1 := (row_low H3.out.1 hj).1; have h2 := Z2.out; simp at h1; omega)) ((Touch.refl _ w3).alloc _) (fun _ _ => id)) (some ⟨w3.heap.size, 0, none⟩) [kd, cb] 2 2 rfl rfl (fun e => by cases e) (At.two0 w3 kd cb) (by decide) (by have h1 := Z2.out; have h2 := A3.out.size; simp; omega) ?_
      intro v5 w5 hv5 hg5
      have A5 := hid (show Adds w w5 from Touch.grown ((A2.out.trans A3.out).alloc _) hg5 (fun k hk hlt => by have h1 := (row_low H3.out.1 hk).1; have h2 := A2.out.size; simp at h1; omega))
      have B5 := hid (show w5.heap[B]? = some (.cells #[.int .i64 (no : Int), .int .u8 (kd.toNat : Int), .slice a n cap] 104 (0, 0)) from (Touch.grown (T := fun k => w.heap.size + 1 ≤ k) (Touch.refl _ _) hg5 (fun k hk _ => by have h1 := (row_low H3.out.1 hk).1; have h2 := Z2.out; simp at h1; omega)).at' hS (by have := HB0.out; omega))
      have hS2 : (fun (w' : World) => w'.heap[B]? = some (.cells #[.int .i64 (no : Int), .int .u8 (kd.toNat : Int), .slice a n cap] 104 (0, 0))) _ := B5.out
      refine hK (v5) _ hS2 ?_
      clear hK K hS; have hS := hS2; clear hS2
      simp only [Act.put, List.setIfInBounds_toArray, List.set_cons_zero, List.set_cons_succ]
      refine H_put (i := 12) 4 (v := v5) rfl rfl (by kernel_rfl) (by kernel_rfl) (by kernel_rfl) (fun _ _ _ h => h) (Or.inl ⟨by rfl, fun w' hw' => ?_⟩) hS ?_
      · go_simp
      simp only [Act.put, List.setIfInBounds_toArray, List.set_cons_zero, List.set_cons_succ]
      refine wpAnyH_done (by kernel_rfl) ?_ _
      obtain ⟨xa, xc, e5, _⟩ := own_cq hv5
      subst e5
      go_wp2_with fail
      go_meet
      case rel =>
        exact ⟨xa, xc, rfl, ⟨by have q := hv5; rw [M.hd6, ← HC.out.2.2.2.1]; simp only [S, List.map_append] at q ⊢; exact q, M.len_hd6 _ _ _, A5.out, by have h3 := Z2.out; have h4 := A3.out.size; have h5 := hg5.size; simp at h5; omega⟩, B5.out⟩
    · obtain rfl := List.mem_singleton.1 hj
      refine O_value (i := 10) 26 (v := .slice (some ⟨w2.heap.size, 0, none⟩) 2 2) (w' := w2.drew.alloc (.cells #[.int .u8 (kd.toNat : Int), .int .u8 (cb.toNat : Int)] 5)) rfl rfl (by rfl) (by go_simp) (fun (w' : World) => w'.heap[B]? = some (.cells #[.int .i64 (no : Int), .int .u8 (kd.toNat : Int), .slice a n cap] 104 (0, 0))) (fun w' h => h) (((Touch.refl (fun _ => False) w2).drew.alloc (.cells #[.int .u8 (kd.toNat : Int), .int .u8 (cb.toNat : Int)] 5)).at' B2.out id) ?_
      have A3 := hid (show Adds w2 (w2.drew.alloc (.cells #[.int .u8 (kd.toNat : Int), .int .u8 (cb.toNat : Int)] 5)) from (Touch.refl _ w2).drew.alloc _)
      have hT3 := hid (At.two0 w2.drew kd cb)
      clear hS
      have hS : (fun (w' : World) => w'.heap[B]? = some (.cells #[.int .i64 (no : Int), .int .u8 (kd.toNat : Int), .slice a n cap] 104 (0, 0))) (w2.drew.alloc (.cells #[.int .u8 (kd.toNat : Int), .int .u8 (cb.toNat : Int)] 5)) := A3.out.at' B2.out id
      generalize hw3 : w2.drew.alloc (.cells #[.int .u8 (kd.toNat : Int), .int .u8 (cb.toNat : Int)] 5) = w3 at A3 hT3 hS ⊢
      simp only [Act.put, List.setIfInBounds_toArray, List.set_cons_zero, List.set_cons_succ]
      refine H_call (i := 3) 19 89 #[.int .u64 (no : Int), .int .i64 4] (R := PFixR w3 no 4) (by kernel_rfl) rfl rfl (by rfl) (by go_simp) ?_ ?_
      · exact HF4.out w3
      rintro e w4 ⟨va, vc, rfl, H4⟩
      have hS2 : (fun (w' : World) => w'.heap[B]? = some (.cells #[.int .i64 (no : Int), .int .u8 (kd.toNat : Int), .slice a n cap] 104 (0, 0))) _ := Touch.at' H4.out.2.2 hS id
      refine ⟨_, _, rfl, hS2, fun w' h => h, ?_⟩
      clear hS; have hS := hS2; clear hS2
      simp only [Act.put, List.setIfInBounds_toArray, List.set_cons_zero, List.set_cons_succ]
      refine H_do (i := 11) (some 27) (by kernel_rfl) rfl rfl (by rfl) (fun K hK => ?_)
      refine wp_append_m (.tmp 19) (.tmp 26) rfl (w.heap.size + 1) (.slice va 4 vc) 4 (S (M.fix no 4)) rfl (row_base H4.out.1 (fun j hj => by have h1 := (row_low H4.out.1 hj).1; have h2 := Z2.out; have h3 := A3.out.size; omega)) (some ⟨w2.heap.size, 0, none⟩) [kd, cb] 2 2 rfl rfl (fun e => by cases e) (hT3.out.adds H4.out.2.2) (by decide) (by have h1 := Z2.out; have h2 := A3.out.size; have h3 := H4.out.2.2.size; omega) ?_
      intro v5 w5 hv5 hg5
      have A5 := hid (show Adds w w5 from Touch.grown ((A2.out.trans A3.out).trans H4.out.2.2) hg5 (fun k hk hlt => by have h1 := (row_low H4.out.1 hk).1; have h2 := A2.out.size; have h3 := A3.out.size; omega))
      have B5 := hid (show w5.heap[B]? = some (.cells #[.int .i64 (no : Int), .int .u8 (kd.toNat : Int), .slice a n cap] 104 (0, 0)) from (Touch.grown (T := fun k => w.heap.size + 1 ≤ k) (Touch.refl _ _) hg5 (fun k hk _ => by have h1 := (row_low H4.out.1 hk).1; have h2 := Z2.out; have h3 := A3.out.size; omega)).at' hS (by have := HB0.out; omega))
      have hS2 : (fun (w' : World) => w'.heap[B]? = some (.cells #[.int .i64 (no : Int), .int .u8 (kd.toNat : Int), .slice a n cap] 104 (0, 0))) _ := B5.out
      refine hK (v5) _ hS2 ?_
      clear hK K hS; have hS := hS2; clear hS2
      simp only [Act.put, List.setIfInBounds_toArray, List.set_cons_zero, List.set_cons_succ]
      refine H_put (i := 12) 4 (v := v5) rfl rfl (by kernel_rfl) (by kernel_rfl) (by kernel_rfl) (fun _ _ _ h => h) (Or.inl ⟨by rfl, fun w' hw' => ?_⟩) hS ?_
      · go_simp
      simp only [Act.put, List.setIfInBounds_toArray, List.set_cons_zero, List.set_cons_succ]
      refine wpAnyH_done (by kernel_rfl) ?_ _
      obtain ⟨xa, xc, e5, _⟩ := own_cq hv5
      subst e5
      go_wp2_with fail
      go_meet
      case rel =>
        exact ⟨xa, xc, rfl, ⟨by have q := hv5; rw [M.hd6, ← HC.out.2.2.2.1]; simp only [S, List.map_append] at q ⊢; exact q, M.len_hd6 _ _ _, A5.out, by have h3 := Z2.out; have h4 := A3.out.size; have h6 := H4.out.2.2.size; have h5 := hg5.size; omega⟩, B5.out⟩
  case rest =>
    obtain ⟨va, vc, hv4, HX⟩ := hcut
    subst hv4
    clear A2 B2 Z2 HF4
    have HF2 := hid (fun w1 => rfixK E 2 (by omega) 2 (by decide) w1)
    go_wp2_with (first
      | (go_at_call 89; refine (HF2.out _).mono ?_; rintro e w3 ⟨fa, fc, rfl, H3⟩)
      | (at_builtin; refine append_m rfl _ _ rfl (w.heap.size + 1) (.slice va 6 vc) 6 (S (M.hd6 no kd n)) rfl (HX.out.1.own H3.out.2.2) fa (M.fix E 2) 2 fc (M.len_fix _ _) rfl H3.out.2.1 (row_at H3.out.1) (by decide) (HX.out.1.lo H3.out.2.2) ?_; intro v5 w5 hv5 hg5; have HV5 := hid (HX.out.1.grow H3.out.2.2 (M.len_fix _ _) hv5 hg5); have B5 := hid (HV5.out.2.at' (Touch.at' H3.out.2.2 HX.out.2 id) (by have := HB0.out; omega)); clear hv5 hg5))
    have HV6 := hid (show RowN w w5 v5 8 (M.phead no kd n E) by have q := HV5.out.1; rw [phead_eq] at q; exact q)
    clear HV5 HX H3 HF2
    go_loopw [4, 5, 6] (fun v ev i wr => ∃ (k Ek : Nat), k ≤ n ∧ i = .int .i64 (k : Int) ∧ ev = .int .i64 (Ek : Int) ∧ Hid (Ek = (cs.take k).flatten.length ∧ RowN w wr v (8 + 2 * k) (M.phead no kd n E ++ M.ends 0 (cs.take k)) ∧ wr.heap[B]? = some (.cells #[.int .i64 (no : Int), .int .u8 (kd.toNat : Int), .slice a n cap] 104 (0, 0)))) (fun _ _ i _ => n - (intOf i).toNat)
    case atStart => exact ⟨0, 0, Nat.zero_le _, rfl, rfl, rfl, by simpa [M.ends] using HV6.out, B5.out⟩
    case round =>
      obtain ⟨k, Ek, hk, rfl, rfl, HI⟩ := hrel
      have cB : wr.cell? ⟨B, 2, none⟩ = some (.slice a n cap) := by have q := cellOf HI.out.2.2 2; simpa using q
      obtain ⟨xa, xc, hv4⟩ := HI.out.2.1.slice
      subst hv4
      obtain ⟨M8, hM8⟩ : ∃ M8, M8 = 8 + 2 * k := ⟨_, rfl⟩
      rw [← hM8] at HI ⊢
      have HM8 := hid hM8
      clear hM8
      have hEk : Ek ≤ E := by rw [HI.out.1, HE.out.1]; exact M.flat_le cs k
      by_cases hlt : k < n
      · obtain ⟨y, b, o, hy, hq, ha, hc⟩ := part_get HG.out (k := k) (by show k < hs.length; rw [HC.out.2.2.2.2]; exact hlt)
        have ha' : a = some ⟨b, o, none⟩ := ha
        subst ha'
        have hc' : wr.cell? ⟨b, o + k, none⟩ = some (.slice y.a y.bs.length y.cap) := below_adds HI.out.2.1.adds hc
        obtain ⟨yl, hyl⟩ : ∃ yl, yl = y.bs.length := ⟨_, rfl⟩
        have hcy : cs[k]? = some y.bs := by rw [HC.out.1, List.getElem?_map, hy]; rfl
        obtain ⟨E1, hE1⟩ : ∃ E1, E1 = Ek + yl := ⟨_, rfl⟩
        have hfn : (cs.take (k + 1)).flatten.length = E1 := by rw [M.flat_nx hcy, List.length_append, ← HI.out.1, hE1, hyl]
        have hE1f : E1 ≤ E := by rw [← hfn, HE.out.1]; exact M.flat_le cs (k + 1)
        rw [← hyl] at hc'
        have HY := hid (And.intro hcy (And.intro hfn hE1))
        have hadd : (Ek : Int) + (yl : Int) = (E1 : Int) := by omega
        have hyE : yl ≤ 244 := by omega
        have HF := hid (fun w1 => rfixK E1 2 (by omega) 2 (by decide) w1)
        have hM250 : M8 ≤ 252 := by have := HM8.out; omega
        clear hy hq ha hc hcy hyl hfn hE1
        go_wp2_with (first
          | (go_at_call 89; refine (HF.out _).mono ?_; rintro e w3 ⟨fa, fc, rfl, H3⟩)
          | (at_builtin; refine append_m rfl _ _ rfl (w.heap.size + 1) (.slice xa M8 xc) M8 (S (M.phead no kd n E ++ M.ends 0 (cs.take k))) rfl (HI.out.2.1.own H3.out.2.2) fa (M.fix E1 2) 2 fc (M.len_fix _ _) rfl H3.out.2.1 (row_at H3.out.1) (by omega) (HI.out.2.1.lo H3.out.2.2) ?_; intro v7 w7 hv7 hg7; have HV7 := hid (HI.out.2.1.grow H3.out.2.2 (M.len_fix _ _) hv7 hg7); have B7 := hid (HV7.out.2.at' (Touch.at' H3.out.2.2 HI.out.2.2 id) (by have := HB0.out; omega)); clear hv7 hg7))
        go_roundw
        case rel =>
          refine ⟨k + 1, E1, by omega, by go_num, by first | rfl | go_num, HY.out.2.1.symm, ?_, B7.out⟩
          have q := HV7.out.1
          rw [ends_nx HY.out.1, HY.out.2.1, ← List.append_assoc, show 8 + 2 * (k + 1) = M8 + 2 by have := HM8.out; omega]
          exact q
        case measure => simp [intOf]; omega
      · obtain rfl : n = k := by omega
        have HX := hid (show RowN w wr (.slice xa M8 xc) M8 (M.phead no kd n E ++ M.ends 0 cs ++ (cs.take 0).flatten) by
          have q := HI.out.2.1
          rw [List.take_of_length_le (by rw [HC.out.2.1]; exact Nat.le_refl _)] at q
          simpa using q)
        have BX := hid HI.out.2.2
        clear HI HV6
        go_wp2_with fail
        clear cB
        go_loopw [4, 7] (fun v i wz => ∃ (q Eq : Nat), q ≤ n ∧ i = .int .i64 (q : Int) ∧ Hid (Eq = (cs.take q).flatten.length ∧ RowN w wz v (M8 + Eq) (M.phead no kd n E ++ M.ends 0 cs ++ (cs.take q).flatten) ∧ wz.heap[B]? = some (.cells #[.int .i64 (no : Int), .int .u8 (kd.toNat : Int), .slice a n cap] 104 (0, 0)))) (fun _ i _ => n - (intOf i).toNat)
        case atStart => exact ⟨0, 0, Nat.zero_le _, rfl, rfl, HX.out, BX.out⟩
        case round =>
          obtain ⟨q, Eq, hq, rfl, HJ⟩ := hrel
          have cB : wr.cell? ⟨B, 2, none⟩ = some (.slice a n cap) := by have q := cellOf HJ.out.2.2 2; simpa using q
          obtain ⟨za, zc, hz4⟩ := HJ.out.2.1.slice
          subst hz4
          obtain ⟨L, hL⟩ : ∃ L, L = M8 + Eq := ⟨_, rfl⟩
          rw [← hL] at HJ ⊢
          have HL := hid hL
          have hEq : Eq ≤ E := by rw [HJ.out.1, HE.out.1]; exact M.flat_le cs q
          have hL252 : L ≤ 252 := by have := HM8.out; have := HE.out.2; omega
          clear hL
          by_cases hqn : q < n
          · obtain ⟨y, b, o, hy, hqy, ha, hc⟩ := part_get HG.out (k := q) (by show q < hs.length; rw [HC.out.2.2.2.2]; exact hqn)
            have ha' : a = some ⟨b, o, none⟩ := ha
            subst ha'
            have hc' : wr.cell? ⟨b, o + q, none⟩ = some (.slice y.a y.bs.length y.cap) := below_adds HJ.out.2.1.adds hc
            obtain ⟨yl, hyl⟩ : ∃ yl, yl = y.bs.length := ⟨_, rfl⟩
            have hcy : cs[q]? = some y.bs := by rw [HC.out.1, List.getElem?_map, hy]; rfl
            have hyE : Eq + yl ≤ E := by
              have h1 : (cs.take (q + 1)).flatten.length = Eq + yl := by rw [M.flat_nx hcy, List.length_append, ← HJ.out.1, hyl]
              rw [← h1, HE.out.1]; exact M.flat_le cs (q + 1)
            rw [← hyl] at hc'
            have HY := hid (And.intro hcy (And.intro hyl.symm hqy))
            clear hy hqy ha hc hcy hyl
            go_wp2_with (first
              | (at_builtin; refine append_m rfl _ _ rfl (w.heap.size + 1) (.slice za L zc) L (S (M.phead no kd n E ++ M.ends 0 cs ++ (cs.take q).flatten)) rfl HJ.out.2.1.row y.a y.bs yl y.cap HY.out.2.1 rfl HY.out.2.2.non (HY.out.2.2.at_.at.adds HJ.out.2.1.adds) (by omega) HJ.out.2.1.low ?_; intro v7 w7 hv7 hg7; have HV7 := hid (HJ.out.2.1.grow (Touch.refl _ _) HY.out.2.1 hv7 hg7); have B7 := hid (HV7.out.2.at' HJ.out.2.2 (by have := HB0.out; omega)); clear hv7 hg7))
            go_roundw
            case rel =>
              refine ⟨q + 1, Eq + yl, by omega, by go_num, by rw [M.flat_nx HY.out.1, List.length_append, ← HJ.out.1, HY.out.2.1], ?_, B7.out⟩
              have q7 := HV7.out.1
              rw [M.flat_nx HY.out.1, ← List.append_assoc, show M8 + (Eq + yl) = L + yl by have := HL.out; omega]
              exact q7
            case measure => simp [intOf]; omega
          · obtain rfl : n = q := by omega
            have hLt : L = 8 + tk := by
              have h1 : Eq = E := by rw [HJ.out.1, List.take_of_length_le (by rw [HC.out.2.1]; exact Nat.le_refl _), HE.out.1]
              have h2 := HE.out.2
              have h3 := HM8.out
              have h4 := HL.out
              omega
            have HX2 := hid (show RowN w wr (.slice za L zc) L ((M.phead no kd cs.length cs.flatten.length ++ M.ends 0 cs ++ cs.flatten) ++ List.replicate 0 0) by
              have q := HJ.out.2.1
              rw [List.take_of_length_le (by rw [HC.out.2.1]; exact Nat.le_refl _)] at q
              rw [HC.out.2.1, ← HE.out.1]
              simpa using q)
            have HLt := hid hLt
            clear HJ hLt
            go_wp2_with fail
            clear cB
            go_loopw [4] (fun v wz => ∃ (j Lj : Nat), Lj ≤ 256 ∧ lenV v = Lj ∧ Hid (Lj = L + j ∧ RowN w wz v Lj ((M.phead no kd cs.length cs.flatten.length ++ M.ends 0 cs ++ cs.flatten) ++ List.replicate j 0))) (fun v _ => 256 - lenV v)
            case atStart => exact ⟨0, L, by omega, rfl, rfl, HX2.out⟩
            case round =>
              obtain ⟨j, Lj, hLj, hlv, HJ⟩ := hrel
              obtain ⟨za2, zc2, hz4⟩ := HJ.out.2.slice
              subst hz4
              clear hlv
              by_cases h256 : Lj < 256
              · go_wp2_with (first
                  | (at_builtin; refine append_m rfl _ _ rfl (w.heap.size + 1) (.slice za2 Lj zc2) Lj (S ((M.phead no kd cs.length cs.flatten.length ++ M.ends 0 cs ++ cs.flatten) ++ List.replicate j 0)) rfl (HJ.out.2.own ((Touch.refl _ wr).alloc _)) (some ⟨wr.heap.size, 0, none⟩) [0] 1 1 rfl rfl (fun e => by cases e) (At.one wr 0) (by omega) (HJ.out.2.lo ((Touch.refl _ wr).alloc _)) ?_; intro v7 w7 hv7 hg7; have HV7 := hid (HJ.out.2.grow ((Touch.refl _ wr).alloc _) rfl hv7 hg7).1; clear hv7 hg7))
                go_roundw
                case rel =>
                  obtain ⟨ya, yc, e7⟩ := HV7.out.slice
                  refine ⟨j + 1, Lj + 1, by omega, by rw [e7]; rfl, by have := HJ.out.1; omega, ?_⟩
                  have q7 := HV7.out
                  rw [List.replicate_succ', ← List.append_assoc]
                  exact q7
                case measure =>
                  obtain ⟨ya, yc, e7⟩ := HV7.out.slice
                  rw [e7]
                  show 256 - (Lj + 1) < 256 - Lj
                  omega
              · obtain rfl : Lj = 256 := by omega
                have HP := hid (show (M.phead no kd cs.length cs.flatten.length ++ M.ends 0 cs ++ cs.flatten) ++ List.replicate j 0 = M.pbytes ⟨no, kd, cs⟩ by
                  have e : M.taken cs = tk := by rw [HTk.out, HC.out.1]
                  rw [show j = 248 - M.taken cs by rw [e]; have h1 := HJ.out.1; have h2 := HLt.out; omega]
                  exact bytes_end no kd cs HC.out.2.2.1)
                go_wp2_with fail
                go_ret
                exact ⟨za2, zc2, rfl, by rw [← HP.out]; exact HJ.out.2.row, HJ.out.2.adds⟩
end Go.Proofs.YtjlennpoaefllaaGreatDoor
