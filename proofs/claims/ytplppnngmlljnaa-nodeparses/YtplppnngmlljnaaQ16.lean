/- Texts put together: RBytes, RParse0, RParse, NRz. -/
import Derived.Test.YtplppnngmlljnaaQ08
import Derived.Deep.CutBlock
import Derived.Deep.DeepCutAuto
import Derived.Test.YtplppnngmlljnaaQ01
import Derived.Test.YtplppnngmlljnaaQ13
import Derived.Test.YtplppnngmlljnaaQ15
/- The reference's Taken and Bytes. -/
namespace Go.Proofs.Ytplppnngmlljnaa
open Go.RowKit

set_option maxRecDepth 100000 in
set_option maxHeartbeats 1000000 in
theorem rtaken_any {Q : Nat → Prop} (a : Option Addr) (hs : List Part) (n cap : Nat) (hn : hs.length = n) (w : World) (h : GQ w Q ⟨a, cap, hs⟩) (tk : Nat) (htk : tk = M.taken (hs.map (·.bs))) (hl : tk ≤ 1000000000000000) : Calls Try.prog 43 #[.slice a n cap] w (Tells (.int .i64 (tk : Int)) w) := by
  have HG := hid h
  have HN := hid hn
  have HT := hid htk
  have hn2 : n ≤ tk := by rw [htk, ← hn, ← List.length_map (f := (·.bs))]; unfold M.taken; omega
  clear h hn htk
  go_enter Try.func43, Try.ntmps43
  go_wp2_with fail
  go_loopw [3, 4] (fun r i wr => ∃ (k t : Nat), k ≤ n ∧ t ≤ tk ∧ i = .int .i64 (k : Int) ∧ r = .int .i64 (t : Int) ∧ Hid (t = M.taken ((hs.map (·.bs)).take k)) ∧ wr = w) (fun _ i _ => n - (intOf i).toNat)
  case atStart => exact ⟨0, 0, Nat.zero_le _, Nat.zero_le _, rfl, rfl, rfl, rfl⟩
  case round =>
    obtain ⟨k, t, hk, ht, rfl, rfl, HI, hw⟩ := hrel
    obtain rfl := hw.symm
    by_cases hlt : k < n
    · obtain ⟨y, b, o, hy, hq, ha, hc⟩ := part_get HG.out (k := k) (by rw [HN.out]; exact hlt)
      have ha' : a = some ⟨b, o, none⟩ := ha
      subst ha'
      have HY := hid (taken_next hy)
      obtain ⟨yl, hyl0⟩ : ∃ yl, yl = y.bs.length := ⟨_, rfl⟩
      rw [← hyl0] at hc HY
      have hle : t + (2 + yl) ≤ tk := by
        have h2 := taken_le (hs.map (·.bs)) (k + 1)
        have h3 : M.taken ((hs.map (·.bs)).take (k + 1)) = M.taken ((hs.map (·.bs)).take k) + (2 + yl) := HY.out
        have h4 := HI.out
        have h5 := HT.out
        omega
      clear hy hq ha hyl0
      go_wp2_with fail
      go_roundw
      case rel => exact ⟨k + 1, t + (2 + yl), by omega, by omega, by go_num, by go_num, hid (by rw [HY.out, ← HI.out]), by first | rfl | trivial⟩
      case measure => simp [intOf]; omega
    · obtain rfl : n = k := by omega
      have HE := hid (show t = tk by rw [HI.out, List.take_of_length_le (by rw [List.length_map, HN.out]; exact Nat.le_refl _), HT.out])
      go_wp2_with fail
      go_ret
      exact ⟨by rw [← HE.out]; rfl, rfl⟩
/-- Bytes put behind a row of one's own, where the operation stands alone. -/
theorem wp_append_m {w : World} {o : Oper} {act : Act} {K : Act → World → Prop} {Q : Exit → Act → World → Prop} (s x : Operand)
    (ho : o.op = .call { callee := .builtin .append, args := #[s, x], argTypes := #[30, 30] }) (base : Nat) (v : Value) (n : Nat) (xs : List Value) (hs : act.eval s = v) (hown : w.ownsRow base 5 1 v n xs)
    (a : Option Addr) (bs : List UInt8) (m cap : Nat) (hm : bs.length = m) (hx : act.eval x = .slice a m cap) (hcap : a = none → cap = 0) (hA : At w a bs) (hlen : n + m ≤ 1000000000) (hbase : base ≤ w.heap.size)
    (h : ∀ v' w', w'.ownsRow base 5 1 v' (n + m) (xs ++ S bs) → w.grownBy w' v.ownBlock → K (act.put o.dst v') w') : o.wp Try.prog act w K Q := by
  obtain ⟨i0, hi, hz0, hz1, hz2⟩ := info5all
  cases a with
  | none =>
    obtain rfl := hcap rfl
    obtain rfl : bs = [] := by
      cases bs with
      | nil => rfl
      | cons c bs => obtain ⟨b, o', e, _⟩ := hA 0 c rfl; cases e
    obtain rfl : m = 0 := by rw [← hm]; rfl
    have hrun := run_append_owned_none (P := Try.prog) (w := w) base 30 o.type 5 i0 1 Try.underlying30 hi v n xs hown
    unfold Oper.wp
    simp [execOp, ho, resolve, invoke, builtin, hs, hx, hrun, Result.andThen]
    exact h v w (by simpa [S] using hown) ⟨rfl, rfl, rfl, Nat.le_refl _, fun _ _ _ => rfl⟩
  | some ad =>
    obtain ⟨v', w', hr, h2, h3, _, _⟩ := run_append_own_at (P := Try.prog) w base 30 o.type 5 i0 (.int .u8 0) 1 1 Try.underlying30 hi hz0 hz1 hz2 rfl (by decide) v n xs hown ad m cap (S bs) (by rw [length_S]; omega) (by
      intro j y hj
      rw [S_get] at hj
      obtain ⟨c, hc, rfl⟩ := Option.map_eq_some_iff.1 hj
      obtain ⟨b, o', e, h1⟩ := hA j c hc
      obtain rfl : ad = ⟨b, o', none⟩ := by simpa using e
      rw [Addr.add_mid]; exact h1) (one_S bs) (by unfold maxLen; omega) (by omega) hbase
    unfold Oper.wp execOp
    simp only [ho, resolve, invoke, builtin, Sem.run_bind, Sem.run_pure, Result.andThen_ok, List.map_toArray, List.map_cons, List.map_nil, hs, hx, hr]
    exact h v' w' h2 h3
theorem append_m {w : World} {ops : Array Oper} {rest : List Oper} {o : Oper} {act : Act} {Q : Exit → Act → World → Prop} (hgd : o.guard = none) (s x : Operand)
    (ho : o.op = .call { callee := .builtin .append, args := #[s, x], argTypes := #[30, 30] }) (base : Nat) (v : Value) (n : Nat) (xs : List Value) (hs : act.eval s = v) (hown : w.ownsRow base 5 1 v n xs)
    (a : Option Addr) (bs : List UInt8) (m cap : Nat) (hm : bs.length = m) (hx : act.eval x = .slice a m cap) (hcap : a = none → cap = 0) (hA : At w a bs) (hlen : n + m ≤ 1000000000) (hbase : base ≤ w.heap.size)
    (h : ∀ v' w', w'.ownsRow base 5 1 v' (n + m) (xs ++ S bs) → w.grownBy w' v.ownBlock → wpList Try.prog ops Q rest (act.put o.dst v') w') : wpList Try.prog ops Q (o :: rest) act w :=
  wpList_plain hgd fun _ hK => wp_append_m s x ho base v n xs hs hown a bs m cap hm hx hcap hA hlen hbase (fun v' w' h1 h2 => hK _ _ (h v' w' h1 h2))
theorem At.two0 (w : World) (c d : UInt8) : At (w.alloc (.cells #[.int .u8 (c.toNat : Int), .int .u8 (d.toNat : Int)] 5)) (some ⟨w.heap.size, 0, none⟩) [c, d] := by
  intro j x hj
  refine ⟨_, _, rfl, ?_⟩
  rw [cell_of_row _ _ _ _ _ _ (heap_alloc_new w _)]
  match j, hj with
  | 0, hj => obtain rfl : c = x := Option.some.inj hj; rfl
  | 1, hj => obtain rfl : d = x := Option.some.inj hj; rfl
  | j + 2, hj => simp at hj
/-- What the reference's Fixed tells. -/
def PFixR (w : World) (n k : Nat) (e : Ending) (w' : World) : Prop := ∃ va vc, e = .returned (.slice va k vc) ∧ Hid (w'.ownsRow w.heap.size 5 1 (.slice va k vc) k (S (M.fix n k)) ∧ (va = none → vc = 0) ∧ Adds w w')
theorem rfixK (n k : Nat) (hn : n < 18446744073709551616) (z : Int) (hz : M.clamp z = k) (w : World) : Calls Try.prog 68 #[.int .u64 (n : Int), .int .i64 z] w (PFixR w n k) := by
  refine (rfixedp_any n hn z w).mono ?_
  rintro e w' ⟨v, rfl, h1, h2⟩
  rw [hz, M.len_fix] at h1
  obtain ⟨va, vc, rfl, _, hn, _⟩ := own_cq h1
  exact ⟨va, vc, rfl, h1, hn, h2⟩
theorem row_at {w : World} {base n cap : Nat} {a : Option Addr} {bs : List UInt8} (h : w.ownsRow base 5 1 (.slice a n cap) n (S bs)) : At w a bs := by
  obtain ⟨a', c', e, _, _, hq⟩ := own_cq h
  cases e
  exact hq.at
/-- A row of bytes in new memory, beside a box. -/
structure RowN (w0 w : World) (v : Value) (n : Nat) (bs : List UInt8) : Prop where
  row : w.ownsRow (w0.heap.size + 1) 5 1 v n (S bs)
  len : bs.length = n
  adds : Adds w0 w
  low : w0.heap.size + 1 ≤ w.heap.size
theorem RowN.grow {w0 w w' : World} {v v' : Value} {bs cs : List UInt8} {n m : Nat} (h : RowN w0 w v n bs) {w1 : World} (hA : Adds w w1) (hm : cs.length = m) (hown : w'.ownsRow (w0.heap.size + 1) 5 1 v' (n + m) (S bs ++ S cs)) (hg : w1.grownBy w' v.ownBlock) : RowN w0 w' v' (n + m) (bs ++ cs) ∧ Touch (fun k => w0.heap.size + 1 ≤ k) w1 w' := by
  have hT : Touch (fun k => w0.heap.size + 1 ≤ k) w1 w' := Touch.grown (T := fun k => w0.heap.size + 1 ≤ k) (Touch.refl _ _) hg (fun k hk _ => (row_low h.row hk).1)
  refine ⟨⟨?_, by rw [List.length_append, h.len, hm], Touch.grown (h.adds.trans hA) hg (fun k hk hlt => by have := (row_low h.row hk).1; omega), by have h1 := h.low; have h2 := hA.size; have h3 := hT.size; omega⟩, hT⟩
  simp only [S, List.map_append]
  exact hown
theorem RowN.own {w0 w w1 : World} {v : Value} {bs : List UInt8} {n : Nat} (h : RowN w0 w v n bs) (hA : Adds w w1) : w1.ownsRow (w0.heap.size + 1) 5 1 v n (S bs) := row_touch h.row hA (fun _ _ => id)
theorem RowN.lo {w0 w w1 : World} {v : Value} {bs : List UInt8} {n : Nat} (h : RowN w0 w v n bs) (hA : Adds w w1) : w0.heap.size + 1 ≤ w1.heap.size := Nat.le_trans h.low hA.size
theorem RowN.slice {w0 w : World} {v : Value} {bs : List UInt8} {n : Nat} (h : RowN w0 w v n bs) : ∃ a c, v = .slice a n c := by
  obtain ⟨a, c, e, _⟩ := own_cq h.row
  exact ⟨a, c, e⟩
/-- How long a slice is. -/
def lenV : Value → Nat
  | .slice _ n _ => n
  | _ => 0
/-- What stands ahead of the ends. -/
theorem phead_eq (no : Nat) (kd : UInt8) (n E : Nat) : M.hd6 no kd n ++ M.fix E 2 = M.phead no kd n E := by
  rw [M.hd6, M.phead, List.append_assoc]; rfl
theorem ends_nx {cs : List (List UInt8)} {k : Nat} {c : List UInt8} (hc : cs[k]? = some c) : M.ends 0 (cs.take (k + 1)) = M.ends 0 (cs.take k) ++ M.fix (cs.take (k + 1)).flatten.length 2 := by
  rw [M.flat_nx hc, List.length_append]
  conv => lhs; rw [List.take_add_one, hc]
  show M.ends 0 (_ ++ [c]) = _
  rw [M.ends_snoc, Nat.zero_add]
theorem bytes_end (no : Nat) (kd : UInt8) (cs : List (List UInt8)) (h : M.taken cs ≤ 244) : (M.phead no kd cs.length cs.flatten.length ++ M.ends 0 cs ++ cs.flatten) ++ List.replicate (248 - M.taken cs) 0 = M.pbytes ⟨no, kd, cs⟩ := by
  rw [M.pbytes, M.pfirst, M.room]
  simp only [List.append_assoc]
  congr 4
  rw [show [(0 : UInt8), 0, 0, 0] = List.replicate 4 0 from rfl, List.replicate_append_replicate]
  congr 1
  omega
set_option maxRecDepth 100000 in
set_option maxHeartbeats 2000000 in
theorem rbytes_any {Q : Nat → Prop} (no : Nat) (kd : UInt8) (a : Option Addr) (hs : List Part) (n cap : Nat) (hn : hs.length = n) (w : World) (h : GQ w Q ⟨a, cap, hs⟩) (hno : no < 2147483648) (ht : M.taken (hs.map (·.bs)) ≤ 244) :
    Calls Try.prog 66 #[.agg #[.int .i64 (no : Int), .int .u8 (kd.toNat : Int), .slice a n cap]] w (fun e w' => ∃ ra rc, e = .returned (.slice ra 256 rc) ∧ Hid (w'.ownsRow (w.heap.size + 1) 5 1 (.slice ra 256 rc) 256 (S (M.pbytes ⟨no, kd, hs.map (·.bs)⟩)) ∧ Adds w w')) := by
  obtain ⟨cs, hcs⟩ : ∃ cs, cs = hs.map (·.bs) := ⟨_, rfl⟩
  have hcl : cs.length = n := by rw [hcs, List.length_map, hn]
  obtain ⟨tk, htk⟩ : ∃ tk, tk = M.taken (hs.map (·.bs)) := ⟨_, rfl⟩
  have HTk := hid htk
  rw [← hcs] at ht ⊢
  obtain ⟨E, hE⟩ : ∃ E, E = cs.flatten.length := ⟨_, rfl⟩
  have ht2 : tk = 2 * n + E := by rw [htk, ← hcs, M.taken, hcl, hE]
  have htk244 : tk ≤ 244 := by rw [htk, ← hcs]; exact ht
  obtain ⟨m, hm⟩ : ∃ m, m = 2 * n := ⟨_, rfl⟩
  have hwm : IntKind.i64.wrap (2 * (n : Int)) = (m : Int) := by rw [IntKind.wrap_i64]; omega
  have hwE : IntKind.i64.wrap ((tk : Int) - (m : Int)) = (E : Int) := by rw [IntKind.wrap_i64]; omega
  have hwE2 : IntKind.u64.wrap (E : Int) = (E : Int) := by show (E : Int) % 18446744073709551616 = _; omega
  obtain ⟨cb, hcb⟩ : ∃ cb, cb = UInt8.ofNat n := ⟨_, rfl⟩
  have hcb2 : IntKind.u8.wrap (n : Int) = (cb.toNat : Int) := by rw [hcb, M.ofNat_toNat _ (by omega)]; show (n : Int) % 256 = _; omega
  have hwn : IntKind.u64.wrap (no : Int) = (no : Int) := by show (no : Int) % 18446744073709551616 = _; omega
  have HG := hid h
  have HC := hid (And.intro hcs (And.intro hcl (And.intro ht (And.intro hcb hn))))
  have HE := hid (And.intro hE ht2)
  have HF4 := hid (fun w1 => rfixK no 4 (by omega) 4 (by decide) w1)
  have hE244 : E ≤ 244 := by omega
  have hn122 : n ≤ 122 := by omega
  clear h hcs hcl ht hcb hn htk hE ht2 hm
  go_enter Try.func66, Try.ntmps66
  go_upto_region 1 with fail
  obtain ⟨wA, hwA⟩ : ∃ wA, wA = w.alloc (Obj.cells #[Value.int IntKind.i64 (no : Int), Value.int IntKind.u8 (kd.toNat : Int), Value.slice a n cap] 84) := ⟨_, rfl⟩
  have HA := hid (show Adds w wA by rw [hwA]; exact (Touch.refl _ w).alloc _)
  have HB := hid (show wA.heap[w.heap.size]? = some (Obj.cells #[Value.int IntKind.i64 (no : Int), Value.int IntKind.u8 (kd.toNat : Int), Value.slice a n cap] 84 (0, 0)) by rw [hwA]; exact heap_alloc_new w _)
  have HAs := hid (show w.heap.size + 1 ≤ wA.heap.size by rw [hwA]; simp)
  rw [← hwA]
  clear hwA
  obtain ⟨B, hB⟩ : ∃ B, B = w.heap.size := ⟨_, rfl⟩
  have HB0 := hid hB
  rw [← hB] at HB ⊢
  clear hB
  refine H_begin (S := fun (w' : World) => w'.heap[B]? = some (.cells #[.int .i64 (no : Int), .int .u8 (kd.toNat : Int), .slice a n cap] 84 (0, 0))) (by kernel_rfl) ?_
  have hS : (fun (w' : World) => w'.heap[B]? = some (.cells #[.int .i64 (no : Int), .int .u8 (kd.toNat : Int), .slice a n cap] 84 (0, 0))) wA.drew := HB.out
  refine H_put (i := 0) 8 (v := .pointer (some ⟨B, 2, none⟩)) rfl rfl (by kernel_rfl) (by kernel_rfl) (by kernel_rfl) (fun _ _ _ h => h) (Or.inl ⟨by rfl, fun w' hw' => ?_⟩) hS ?_
  · go_simp
  simp only [Act.put, List.setIfInBounds_toArray, List.set_cons_zero, List.set_cons_succ]
  refine H_put (i := 1) 9 (v := .slice a n cap) rfl rfl (by kernel_rfl) (by kernel_rfl) (by kernel_rfl) (fun _ _ _ h => h) (Or.inl ⟨by rfl, fun w' hw' => ?_⟩) hS ?_
  · have c : w'.cell? ⟨B, 2, none⟩ = some (.slice a n cap) := cellOf (hw') 2; go_simp
  simp only [Act.put, List.setIfInBounds_toArray, List.set_cons_zero, List.set_cons_succ]
  refine H_put (i := 3) 11 (v := .pointer (some ⟨B, 2, none⟩)) rfl rfl (by kernel_rfl) (by kernel_rfl) (by kernel_rfl) (fun _ _ _ h => h) (Or.inl ⟨by rfl, fun w' hw' => ?_⟩) hS ?_
  · go_simp
  simp only [Act.put, List.setIfInBounds_toArray, List.set_cons_zero, List.set_cons_succ]
  refine H_put (i := 4) 12 (v := .slice a n cap) rfl rfl (by kernel_rfl) (by kernel_rfl) (by kernel_rfl) (fun _ _ _ h => h) (Or.inl ⟨by rfl, fun w' hw' => ?_⟩) hS ?_
  · have c : w'.cell? ⟨B, 2, none⟩ = some (.slice a n cap) := cellOf (hw') 2; go_simp
  simp only [Act.put, List.setIfInBounds_toArray, List.set_cons_zero, List.set_cons_succ]
  refine H_put (i := 5) 13 (v := .int .i64 (n : Int)) rfl rfl (by kernel_rfl) (by kernel_rfl) (by kernel_rfl) (fun _ _ _ h => h) (Or.inl ⟨by rfl, fun w' hw' => ?_⟩) hS ?_
  · go_simp
  simp only [Act.put, List.setIfInBounds_toArray, List.set_cons_zero, List.set_cons_succ]
  refine H_put (i := 6) 14 (v := .int .i64 (m : Int)) rfl rfl (by kernel_rfl) (by kernel_rfl) (by kernel_rfl) (fun _ _ _ h => h) (Or.inl ⟨by rfl, fun w' hw' => ?_⟩) hS ?_
  · go_simp
  simp only [Act.put, List.setIfInBounds_toArray, List.set_cons_zero, List.set_cons_succ]
  refine H_call (i := 2) 10 43 #[.slice a n cap] (R := Tells (.int .i64 (tk : Int)) wA.drew) (by kernel_rfl) rfl rfl (by rfl) (by go_simp) ?_ ?_
  · exact rtaken_any a hs n cap HC.out.2.2.2.2 wA.drew (HG.out.adds (HA.out.trans ((Touch.refl _ wA).drew))) tk HTk.out (by omega)
  rintro e w1 ⟨rfl, hw1⟩
  subst hw1
  have hS2 : (fun (w' : World) => w'.heap[B]? = some (.cells #[.int .i64 (no : Int), .int .u8 (kd.toNat : Int), .slice a n cap] 84 (0, 0))) _ := HB.out
  refine ⟨_, _, rfl, hS2, fun w' h => h, ?_⟩
  clear hS; have hS := hS2; clear hS2
  simp only [Act.put, List.setIfInBounds_toArray, List.set_cons_zero, List.set_cons_succ]
  refine H_put (i := 7) 15 (v := .int .i64 (E : Int)) rfl rfl (by kernel_rfl) (by kernel_rfl) (by kernel_rfl) (fun _ _ _ h => h) (Or.inl ⟨by rfl, fun w' hw' => ?_⟩) hS ?_
  · go_simp
  simp only [Act.put, List.setIfInBounds_toArray, List.set_cons_zero, List.set_cons_succ]
  refine H_put (i := 8) 3 (v := .int .i64 (E : Int)) rfl rfl (by kernel_rfl) (by kernel_rfl) (by kernel_rfl) (fun _ _ _ h => h) (Or.inl ⟨by rfl, fun w' hw' => ?_⟩) hS ?_
  · go_simp
  simp only [Act.put, List.setIfInBounds_toArray, List.set_cons_zero, List.set_cons_succ]
  refine wpAnyH_done (by kernel_rfl) ?_ _
  have A2 := hid (show Adds w wA.drew from HA.out.drew)
  have B2 := hid (show wA.drew.heap[B]? = some (.cells #[.int .i64 (no : Int), .int .u8 (kd.toNat : Int), .slice a n cap] 84 (0, 0)) from HB.out)
  have Z2 := hid (show w.heap.size + 1 ≤ wA.drew.heap.size from HAs.out)
  generalize wA.drew = w2 at A2 B2 Z2 ⊢
  clear hS HB HAs hwm hwE HA
  go_upto_region 2 with fail
  go_cut [4] (fun v4 wx => ∃ (va : Option Addr) (vc : Nat), v4 = .slice va 6 vc ∧ Hid (RowN w wx (.slice va 6 vc) 6 (M.hd6 no kd n) ∧ wx.heap[B]? = some (.cells #[.int .i64 (no : Int), .int .u8 (kd.toNat : Int), .slice a n cap] 84 (0, 0))))
  case first =>
    refine H_begin (S := fun (w' : World) => w'.heap[B]? = some (.cells #[.int .i64 (no : Int), .int .u8 (kd.toNat : Int), .slice a n cap] 84 (0, 0))) (by kernel_rfl) ?_
    have hS : (fun (w' : World) => w'.heap[B]? = some (.cells #[.int .i64 (no : Int), .int .u8 (kd.toNat : Int), .slice a n cap] 84 (0, 0))) w2.drew := B2.out
    refine H_put (i := 0) 16 (v := .pointer (some ⟨B, 0, none⟩)) rfl rfl (by kernel_rfl) (by kernel_rfl) (by kernel_rfl) (fun _ _ _ h => h) (Or.inl ⟨by rfl, fun w' hw' => ?_⟩) hS ?_
    · go_simp
    simp only [Act.put, List.setIfInBounds_toArray, List.set_cons_zero, List.set_cons_succ]
    refine H_put (i := 1) 17 (v := .int .i64 (no : Int)) rfl rfl (by kernel_rfl) (by kernel_rfl) (by kernel_rfl) (fun _ _ _ h => h) (Or.inl ⟨by rfl, fun w' hw' => ?_⟩) hS ?_
    · have c : w'.cell? ⟨B, 0, none⟩ = some (.int .i64 (no : Int)) := cellOf (hw') 0; go_simp
    simp only [Act.put, List.setIfInBounds_toArray, List.set_cons_zero, List.set_cons_succ]
    refine H_put (i := 2) 18 (v := .int .u64 (no : Int)) rfl rfl (by kernel_rfl) (by kernel_rfl) (by kernel_rfl) (fun _ _ _ h => h) (Or.inl ⟨by rfl, fun w' hw' => ?_⟩) hS ?_
    · go_simp
    simp only [Act.put, List.setIfInBounds_toArray, List.set_cons_zero, List.set_cons_succ]
    refine H_put (i := 4) 20 (v := .pointer (some ⟨B, 1, none⟩)) rfl rfl (by kernel_rfl) (by kernel_rfl) (by kernel_rfl) (fun _ _ _ h => h) (Or.inl ⟨by rfl, fun w' hw' => ?_⟩) hS ?_
    · go_simp
    simp only [Act.put, List.setIfInBounds_toArray, List.set_cons_zero, List.set_cons_succ]
    refine H_put (i := 5) 21 (v := .int .u8 (kd.toNat : Int)) rfl rfl (by kernel_rfl) (by kernel_rfl) (by kernel_rfl) (fun _ _ _ h => h) (Or.inl ⟨by rfl, fun w' hw' => ?_⟩) hS ?_
    · have c : w'.cell? ⟨B, 1, none⟩ = some (.int .u8 (kd.toNat : Int)) := cellOf (hw') 1; go_simp
    simp only [Act.put, List.setIfInBounds_toArray, List.set_cons_zero, List.set_cons_succ]
    refine H_put (i := 6) 22 (v := .pointer (some ⟨B, 2, none⟩)) rfl rfl (by kernel_rfl) (by kernel_rfl) (by kernel_rfl) (fun _ _ _ h => h) (Or.inl ⟨by rfl, fun w' hw' => ?_⟩) hS ?_
    · go_simp
    simp only [Act.put, List.setIfInBounds_toArray, List.set_cons_zero, List.set_cons_succ]
    refine H_put (i := 7) 23 (v := .slice a n cap) rfl rfl (by kernel_rfl) (by kernel_rfl) (by kernel_rfl) (fun _ _ _ h => h) (Or.inl ⟨by rfl, fun w' hw' => ?_⟩) hS ?_
    · have c : w'.cell? ⟨B, 2, none⟩ = some (.slice a n cap) := cellOf (hw') 2; go_simp
    simp only [Act.put, List.setIfInBounds_toArray, List.set_cons_zero, List.set_cons_succ]
    refine H_put (i := 8) 24 (v := .int .i64 (n : Int)) rfl rfl (by kernel_rfl) (by kernel_rfl) (by kernel_rfl) (fun _ _ _ h => h) (Or.inl ⟨by rfl, fun w' hw' => ?_⟩) hS ?_
    · go_simp
    simp only [Act.put, List.setIfInBounds_toArray, List.set_cons_zero, List.set_cons_succ]
    refine H_put (i := 9) 25 (v := .int .u8 (cb.toNat : Int)) rfl rfl (by kernel_rfl) (by kernel_rfl) (by kernel_rfl) (fun _ _ _ h => h) (Or.inl ⟨by rfl, fun w' hw' => ?_⟩) hS ?_
    · go_simp
    simp only [Act.put, List.setIfInBounds_toArray, List.set_cons_zero, List.set_cons_succ]
    refine wpAnyH_all (rs := [3, 10]) (by kernel_rfl) (by simp) (fun j hj => ?_)
    rcases List.mem_cons.1 hj with rfl | hj
    · skip
      refine O_call (i := 3) 19 68 #[.int .u64 (no : Int), .int .i64 4] rfl rfl (by rfl) (by go_simp) (HF4.out w2.drew) ?_
      rintro e w3 ⟨va, vc, rfl, H3⟩
      have A3 := hid (show Adds w2 w3 from Touch.trans ((Touch.refl _ w2).drew) H3.out.2.2)
      refine ⟨_, fun (w' : World) => w'.heap[B]? = some (.cells #[.int .i64 (no : Int), .int .u8 (kd.toNat : Int), .slice a n cap] 84 (0, 0)), rfl, Touch.at' A3.out B2.out id, fun w' h => h, ?_⟩
      clear hS
      have hS : (fun (w' : World) => w'.heap[B]? = some (.cells #[.int .i64 (no : Int), .int .u8 (kd.toNat : Int), .slice a n cap] 84 (0, 0))) w3 := Touch.at' A3.out B2.out id
      simp only [Act.put, List.setIfInBounds_toArray, List.set_cons_zero, List.set_cons_succ]
      refine H_do (i := 10) (some 26) (by kernel_rfl) rfl rfl (by rfl) (fun K hK => ?_)
      go_simp
      have hS2 : (fun (w' : World) => w'.heap[B]? = some (.cells #[.int .i64 (no : Int), .int .u8 (kd.toNat : Int), .slice a n cap] 84 (0, 0))) _ := ((Touch.refl (fun _ => False) w3).alloc (.cells #[.int .u8 (kd.toNat : Int), .int .u8 (cb.toNat : Int)] 5)).at' hS id
      refine hK (.slice (some ⟨w3.heap.size, 0, none⟩) 2 2) _ hS2 ?_
      clear hK K hS; have hS := hS2; clear hS2
      simp only [Act.put, List.setIfInBounds_toArray, List.set_cons_zero, List.set_cons_succ]
      refine H_do (i := 11) (some 27) (by kernel_rfl) rfl rfl (by rfl) (fun K hK => ?_)
      refine wp_append_m (.tmp 19) (.tmp 26) rfl (w.heap.size + 1) (.slice va 4 vc) 4 (S (M.fix no 4)) rfl (row_touch (row_base H3.out.1 (fun j hj => by have h1 := (row_low H3.out.1 hj).1; have h2 := Z2.out; simp at h1; omega)) ((Touch.refl _ w3).alloc _) (fun _ _ => id)) (some ⟨w3.heap.size, 0, none⟩) [kd, cb] 2 2 rfl rfl (fun e => by cases e) (At.two0 w3 kd cb) (by decide) (by have h1 := Z2.out; have h2 := A3.out.size; simp; omega) ?_
      intro v5 w5 hv5 hg5
      have A5 := hid (show Adds w w5 from Touch.grown ((A2.out.trans A3.out).alloc _) hg5 (fun k hk hlt => by have h1 := (row_low H3.out.1 hk).1; have h2 := A2.out.size; simp at h1; omega))
      have B5 := hid (show w5.heap[B]? = some (.cells #[.int .i64 (no : Int), .int .u8 (kd.toNat : Int), .slice a n cap] 84 (0, 0)) from (Touch.grown (T := fun k => w.heap.size + 1 ≤ k) (Touch.refl _ _) hg5 (fun k hk _ => by have h1 := (row_low H3.out.1 hk).1; have h2 := Z2.out; simp at h1; omega)).at' hS (by have := HB0.out; omega))
      have hS2 : (fun (w' : World) => w'.heap[B]? = some (.cells #[.int .i64 (no : Int), .int .u8 (kd.toNat : Int), .slice a n cap] 84 (0, 0))) _ := B5.out
      refine hK (v5) _ hS2 ?_
      clear hK K hS; have hS := hS2; clear hS2
      simp only [Act.put, List.setIfInBounds_toArray, List.set_cons_zero, List.set_cons_succ]
      refine H_put (i := 12) 4 (v := v5) rfl rfl (by kernel_rfl) (by kernel_rfl) (by kernel_rfl) (fun _ _ _ h => h) (Or.inl ⟨by rfl, fun w' hw' => ?_⟩) hS ?_
      · go_simp
      simp only [Act.put, List.setIfInBounds_toArray, List.set_cons_zero, List.set_cons_succ]
      refine wpAnyH_done (by kernel_rfl) ?_ _
      obtain ⟨xa, xc, e5, _⟩ := own_cq hv5
      subst e5
      go_wp2_with fail
      go_meet
      case rel =>
        exact ⟨xa, xc, rfl, ⟨by have q := hv5; rw [M.hd6, ← HC.out.2.2.2.1]; simp only [S, List.map_append] at q ⊢; exact q, M.len_hd6 _ _ _, A5.out, by have h3 := Z2.out; have h4 := A3.out.size; have h5 := hg5.size; simp at h5; omega⟩, B5.out⟩
    · obtain rfl := List.mem_singleton.1 hj
      refine O_value (i := 10) 26 (v := .slice (some ⟨w2.heap.size, 0, none⟩) 2 2) (w' := w2.drew.alloc (.cells #[.int .u8 (kd.toNat : Int), .int .u8 (cb.toNat : Int)] 5)) rfl rfl (by rfl) (by go_simp) (fun (w' : World) => w'.heap[B]? = some (.cells #[.int .i64 (no : Int), .int .u8 (kd.toNat : Int), .slice a n cap] 84 (0, 0))) (fun w' h => h) (((Touch.refl (fun _ => False) w2).drew.alloc (.cells #[.int .u8 (kd.toNat : Int), .int .u8 (cb.toNat : Int)] 5)).at' B2.out id) ?_
      have A3 := hid (show Adds w2 (w2.drew.alloc (.cells #[.int .u8 (kd.toNat : Int), .int .u8 (cb.toNat : Int)] 5)) from (Touch.refl _ w2).drew.alloc _)
      have hT3 := hid (At.two0 w2.drew kd cb)
      clear hS
      have hS : (fun (w' : World) => w'.heap[B]? = some (.cells #[.int .i64 (no : Int), .int .u8 (kd.toNat : Int), .slice a n cap] 84 (0, 0))) (w2.drew.alloc (.cells #[.int .u8 (kd.toNat : Int), .int .u8 (cb.toNat : Int)] 5)) := A3.out.at' B2.out id
      generalize hw3 : w2.drew.alloc (.cells #[.int .u8 (kd.toNat : Int), .int .u8 (cb.toNat : Int)] 5) = w3 at A3 hT3 hS ⊢
      simp only [Act.put, List.setIfInBounds_toArray, List.set_cons_zero, List.set_cons_succ]
      refine H_call (i := 3) 19 68 #[.int .u64 (no : Int), .int .i64 4] (R := PFixR w3 no 4) (by kernel_rfl) rfl rfl (by rfl) (by go_simp) ?_ ?_
      · exact HF4.out w3
      rintro e w4 ⟨va, vc, rfl, H4⟩
      have hS2 : (fun (w' : World) => w'.heap[B]? = some (.cells #[.int .i64 (no : Int), .int .u8 (kd.toNat : Int), .slice a n cap] 84 (0, 0))) _ := Touch.at' H4.out.2.2 hS id
      refine ⟨_, _, rfl, hS2, fun w' h => h, ?_⟩
      clear hS; have hS := hS2; clear hS2
      simp only [Act.put, List.setIfInBounds_toArray, List.set_cons_zero, List.set_cons_succ]
      refine H_do (i := 11) (some 27) (by kernel_rfl) rfl rfl (by rfl) (fun K hK => ?_)
      refine wp_append_m (.tmp 19) (.tmp 26) rfl (w.heap.size + 1) (.slice va 4 vc) 4 (S (M.fix no 4)) rfl (row_base H4.out.1 (fun j hj => by have h1 := (row_low H4.out.1 hj).1; have h2 := Z2.out; have h3 := A3.out.size; omega)) (some ⟨w2.heap.size, 0, none⟩) [kd, cb] 2 2 rfl rfl (fun e => by cases e) (hT3.out.adds H4.out.2.2) (by decide) (by have h1 := Z2.out; have h2 := A3.out.size; have h3 := H4.out.2.2.size; omega) ?_
      intro v5 w5 hv5 hg5
      have A5 := hid (show Adds w w5 from Touch.grown ((A2.out.trans A3.out).trans H4.out.2.2) hg5 (fun k hk hlt => by have h1 := (row_low H4.out.1 hk).1; have h2 := A2.out.size; have h3 := A3.out.size; omega))
      have B5 := hid (show w5.heap[B]? = some (.cells #[.int .i64 (no : Int), .int .u8 (kd.toNat : Int), .slice a n cap] 84 (0, 0)) from (Touch.grown (T := fun k => w.heap.size + 1 ≤ k) (Touch.refl _ _) hg5 (fun k hk _ => by have h1 := (row_low H4.out.1 hk).1; have h2 := Z2.out; have h3 := A3.out.size; omega)).at' hS (by have := HB0.out; omega))
      have hS2 : (fun (w' : World) => w'.heap[B]? = some (.cells #[.int .i64 (no : Int), .int .u8 (kd.toNat : Int), .slice a n cap] 84 (0, 0))) _ := B5.out
      refine hK (v5) _ hS2 ?_
      clear hK K hS; have hS := hS2; clear hS2
      simp only [Act.put, List.setIfInBounds_toArray, List.set_cons_zero, List.set_cons_succ]
      refine H_put (i := 12) 4 (v := v5) rfl rfl (by kernel_rfl) (by kernel_rfl) (by kernel_rfl) (fun _ _ _ h => h) (Or.inl ⟨by rfl, fun w' hw' => ?_⟩) hS ?_
      · go_simp
      simp only [Act.put, List.setIfInBounds_toArray, List.set_cons_zero, List.set_cons_succ]
      refine wpAnyH_done (by kernel_rfl) ?_ _
      obtain ⟨xa, xc, e5, _⟩ := own_cq hv5
      subst e5
      go_wp2_with fail
      go_meet
      case rel =>
        exact ⟨xa, xc, rfl, ⟨by have q := hv5; rw [M.hd6, ← HC.out.2.2.2.1]; simp only [S, List.map_append] at q ⊢; exact q, M.len_hd6 _ _ _, A5.out, by have h3 := Z2.out; have h4 := A3.out.size; have h6 := H4.out.2.2.size; have h5 := hg5.size; omega⟩, B5.out⟩
  case rest =>
    obtain ⟨va, vc, hv4, HX⟩ := hcut
    subst hv4
    clear A2 B2 Z2 HF4
    have HF2 := hid (fun w1 => rfixK E 2 (by omega) 2 (by decide) w1)
    go_wp2_with (first
      | (go_at_call 68; refine (HF2.out _).mono ?_; rintro e w3 ⟨fa, fc, rfl, H3⟩)
      | (at_builtin; refine append_m rfl _ _ rfl (w.heap.size + 1) (.slice va 6 vc) 6 (S (M.hd6 no kd n)) rfl (HX.out.1.own H3.out.2.2) fa (M.fix E 2) 2 fc (M.len_fix _ _) rfl H3.out.2.1 (row_at H3.out.1) (by decide) (HX.out.1.lo H3.out.2.2) ?_; intro v5 w5 hv5 hg5; have HV5 := hid (HX.out.1.grow H3.out.2.2 (M.len_fix _ _) hv5 hg5); have B5 := hid (HV5.out.2.at' (Touch.at' H3.out.2.2 HX.out.2 id) (by have := HB0.out; omega)); clear hv5 hg5))
    have HV6 := hid (show RowN w w5 v5 8 (M.phead no kd n E) by have q := HV5.out.1; rw [phead_eq] at q; exact q)
    clear HV5 HX H3 HF2
    go_loopw [4, 5, 6] (fun v ev i wr => ∃ (k Ek : Nat), k ≤ n ∧ i = .int .i64 (k : Int) ∧ ev = .int .i64 (Ek : Int) ∧ Hid (Ek = (cs.take k).flatten.length ∧ RowN w wr v (8 + 2 * k) (M.phead no kd n E ++ M.ends 0 (cs.take k)) ∧ wr.heap[B]? = some (.cells #[.int .i64 (no : Int), .int .u8 (kd.toNat : Int), .slice a n cap] 84 (0, 0)))) (fun _ _ i _ => n - (intOf i).toNat)
    case atStart => exact ⟨0, 0, Nat.zero_le _, rfl, rfl, rfl, by simpa [M.ends] using HV6.out, B5.out⟩
    case round =>
      obtain ⟨k, Ek, hk, rfl, rfl, HI⟩ := hrel
      have cB : wr.cell? ⟨B, 2, none⟩ = some (.slice a n cap) := by have q := cellOf HI.out.2.2 2; simpa using q
      obtain ⟨xa, xc, hv4⟩ := HI.out.2.1.slice
      subst hv4
      obtain ⟨M8, hM8⟩ : ∃ M8, M8 = 8 + 2 * k := ⟨_, rfl⟩
      rw [← hM8] at HI ⊢
      have HM8 := hid hM8
      clear hM8
      have hEk : Ek ≤ E := by rw [HI.out.1, HE.out.1]; exact M.flat_le cs k
      by_cases hlt : k < n
      · obtain ⟨y, b, o, hy, hq, ha, hc⟩ := part_get HG.out (k := k) (by show k < hs.length; rw [HC.out.2.2.2.2]; exact hlt)
        have ha' : a = some ⟨b, o, none⟩ := ha
        subst ha'
        have hc' : wr.cell? ⟨b, o + k, none⟩ = some (.slice y.a y.bs.length y.cap) := below_adds HI.out.2.1.adds hc
        obtain ⟨yl, hyl⟩ : ∃ yl, yl = y.bs.length := ⟨_, rfl⟩
        have hcy : cs[k]? = some y.bs := by rw [HC.out.1, List.getElem?_map, hy]; rfl
        obtain ⟨E1, hE1⟩ : ∃ E1, E1 = Ek + yl := ⟨_, rfl⟩
        have hfn : (cs.take (k + 1)).flatten.length = E1 := by rw [M.flat_nx hcy, List.length_append, ← HI.out.1, hE1, hyl]
        have hE1f : E1 ≤ E := by rw [← hfn, HE.out.1]; exact M.flat_le cs (k + 1)
        rw [← hyl] at hc'
        have HY := hid (And.intro hcy (And.intro hfn hE1))
        have hadd : (Ek : Int) + (yl : Int) = (E1 : Int) := by omega
        have hyE : yl ≤ 244 := by omega
        have HF := hid (fun w1 => rfixK E1 2 (by omega) 2 (by decide) w1)
        have hM250 : M8 ≤ 252 := by have := HM8.out; omega
        clear hy hq ha hc hcy hyl hfn hE1
        go_wp2_with (first
          | (go_at_call 68; refine (HF.out _).mono ?_; rintro e w3 ⟨fa, fc, rfl, H3⟩)
          | (at_builtin; refine append_m rfl _ _ rfl (w.heap.size + 1) (.slice xa M8 xc) M8 (S (M.phead no kd n E ++ M.ends 0 (cs.take k))) rfl (HI.out.2.1.own H3.out.2.2) fa (M.fix E1 2) 2 fc (M.len_fix _ _) rfl H3.out.2.1 (row_at H3.out.1) (by omega) (HI.out.2.1.lo H3.out.2.2) ?_; intro v7 w7 hv7 hg7; have HV7 := hid (HI.out.2.1.grow H3.out.2.2 (M.len_fix _ _) hv7 hg7); have B7 := hid (HV7.out.2.at' (Touch.at' H3.out.2.2 HI.out.2.2 id) (by have := HB0.out; omega)); clear hv7 hg7))
        go_roundw
        case rel =>
          refine ⟨k + 1, E1, by omega, by go_num, by first | rfl | go_num, HY.out.2.1.symm, ?_, B7.out⟩
          have q := HV7.out.1
          rw [ends_nx HY.out.1, HY.out.2.1, ← List.append_assoc, show 8 + 2 * (k + 1) = M8 + 2 by have := HM8.out; omega]
          exact q
        case measure => simp [intOf]; omega
      · obtain rfl : n = k := by omega
        have HX := hid (show RowN w wr (.slice xa M8 xc) M8 (M.phead no kd n E ++ M.ends 0 cs ++ (cs.take 0).flatten) by
          have q := HI.out.2.1
          rw [List.take_of_length_le (by rw [HC.out.2.1]; exact Nat.le_refl _)] at q
          simpa using q)
        have BX := hid HI.out.2.2
        clear HI HV6
        go_wp2_with fail
        clear cB
        go_loopw [4, 7] (fun v i wz => ∃ (q Eq : Nat), q ≤ n ∧ i = .int .i64 (q : Int) ∧ Hid (Eq = (cs.take q).flatten.length ∧ RowN w wz v (M8 + Eq) (M.phead no kd n E ++ M.ends 0 cs ++ (cs.take q).flatten) ∧ wz.heap[B]? = some (.cells #[.int .i64 (no : Int), .int .u8 (kd.toNat : Int), .slice a n cap] 84 (0, 0)))) (fun _ i _ => n - (intOf i).toNat)
        case atStart => exact ⟨0, 0, Nat.zero_le _, rfl, rfl, HX.out, BX.out⟩
        case round =>
          obtain ⟨q, Eq, hq, rfl, HJ⟩ := hrel
          have cB : wr.cell? ⟨B, 2, none⟩ = some (.slice a n cap) := by have q := cellOf HJ.out.2.2 2; simpa using q
          obtain ⟨za, zc, hz4⟩ := HJ.out.2.1.slice
          subst hz4
          obtain ⟨L, hL⟩ : ∃ L, L = M8 + Eq := ⟨_, rfl⟩
          rw [← hL] at HJ ⊢
          have HL := hid hL
          have hEq : Eq ≤ E := by rw [HJ.out.1, HE.out.1]; exact M.flat_le cs q
          have hL252 : L ≤ 252 := by have := HM8.out; have := HE.out.2; omega
          clear hL
          by_cases hqn : q < n
          · obtain ⟨y, b, o, hy, hqy, ha, hc⟩ := part_get HG.out (k := q) (by show q < hs.length; rw [HC.out.2.2.2.2]; exact hqn)
            have ha' : a = some ⟨b, o, none⟩ := ha
            subst ha'
            have hc' : wr.cell? ⟨b, o + q, none⟩ = some (.slice y.a y.bs.length y.cap) := below_adds HJ.out.2.1.adds hc
            obtain ⟨yl, hyl⟩ : ∃ yl, yl = y.bs.length := ⟨_, rfl⟩
            have hcy : cs[q]? = some y.bs := by rw [HC.out.1, List.getElem?_map, hy]; rfl
            have hyE : Eq + yl ≤ E := by
              have h1 : (cs.take (q + 1)).flatten.length = Eq + yl := by rw [M.flat_nx hcy, List.length_append, ← HJ.out.1, hyl]
              rw [← h1, HE.out.1]; exact M.flat_le cs (q + 1)
            rw [← hyl] at hc'
            have HY := hid (And.intro hcy (And.intro hyl.symm hqy))
            clear hy hqy ha hc hcy hyl
            go_wp2_with (first
              | (at_builtin; refine append_m rfl _ _ rfl (w.heap.size + 1) (.slice za L zc) L (S (M.phead no kd n E ++ M.ends 0 cs ++ (cs.take q).flatten)) rfl HJ.out.2.1.row y.a y.bs yl y.cap HY.out.2.1 rfl HY.out.2.2.non (HY.out.2.2.at_.at.adds HJ.out.2.1.adds) (by omega) HJ.out.2.1.low ?_; intro v7 w7 hv7 hg7; have HV7 := hid (HJ.out.2.1.grow (Touch.refl _ _) HY.out.2.1 hv7 hg7); have B7 := hid (HV7.out.2.at' HJ.out.2.2 (by have := HB0.out; omega)); clear hv7 hg7))
            go_roundw
            case rel =>
              refine ⟨q + 1, Eq + yl, by omega, by go_num, by rw [M.flat_nx HY.out.1, List.length_append, ← HJ.out.1, HY.out.2.1], ?_, B7.out⟩
              have q7 := HV7.out.1
              rw [M.flat_nx HY.out.1, ← List.append_assoc, show M8 + (Eq + yl) = L + yl by have := HL.out; omega]
              exact q7
            case measure => simp [intOf]; omega
          · obtain rfl : n = q := by omega
            have hLt : L = 8 + tk := by
              have h1 : Eq = E := by rw [HJ.out.1, List.take_of_length_le (by rw [HC.out.2.1]; exact Nat.le_refl _), HE.out.1]
              have h2 := HE.out.2
              have h3 := HM8.out
              have h4 := HL.out
              omega
            have HX2 := hid (show RowN w wr (.slice za L zc) L ((M.phead no kd cs.length cs.flatten.length ++ M.ends 0 cs ++ cs.flatten) ++ List.replicate 0 0) by
              have q := HJ.out.2.1
              rw [List.take_of_length_le (by rw [HC.out.2.1]; exact Nat.le_refl _)] at q
              rw [HC.out.2.1, ← HE.out.1]
              simpa using q)
            have HLt := hid hLt
            clear HJ hLt
            go_wp2_with fail
            clear cB
            go_loopw [4] (fun v wz => ∃ (j Lj : Nat), Lj ≤ 256 ∧ lenV v = Lj ∧ Hid (Lj = L + j ∧ RowN w wz v Lj ((M.phead no kd cs.length cs.flatten.length ++ M.ends 0 cs ++ cs.flatten) ++ List.replicate j 0))) (fun v _ => 256 - lenV v)
            case atStart => exact ⟨0, L, by omega, rfl, rfl, HX2.out⟩
            case round =>
              obtain ⟨j, Lj, hLj, hlv, HJ⟩ := hrel
              obtain ⟨za2, zc2, hz4⟩ := HJ.out.2.slice
              subst hz4
              clear hlv
              by_cases h256 : Lj < 256
              · go_wp2_with (first
                  | (at_builtin; refine append_m rfl _ _ rfl (w.heap.size + 1) (.slice za2 Lj zc2) Lj (S ((M.phead no kd cs.length cs.flatten.length ++ M.ends 0 cs ++ cs.flatten) ++ List.replicate j 0)) rfl (HJ.out.2.own ((Touch.refl _ wr).alloc _)) (some ⟨wr.heap.size, 0, none⟩) [0] 1 1 rfl rfl (fun e => by cases e) (At.one wr 0) (by omega) (HJ.out.2.lo ((Touch.refl _ wr).alloc _)) ?_; intro v7 w7 hv7 hg7; have HV7 := hid (HJ.out.2.grow ((Touch.refl _ wr).alloc _) rfl hv7 hg7).1; clear hv7 hg7))
                go_roundw
                case rel =>
                  obtain ⟨ya, yc, e7⟩ := HV7.out.slice
                  refine ⟨j + 1, Lj + 1, by omega, by rw [e7]; rfl, by have := HJ.out.1; omega, ?_⟩
                  have q7 := HV7.out
                  rw [List.replicate_succ', ← List.append_assoc]
                  exact q7
                case measure =>
                  obtain ⟨ya, yc, e7⟩ := HV7.out.slice
                  rw [e7]
                  show 256 - (Lj + 1) < 256 - Lj
                  omega
              · obtain rfl : Lj = 256 := by omega
                have HP := hid (show (M.phead no kd cs.length cs.flatten.length ++ M.ends 0 cs ++ cs.flatten) ++ List.replicate j 0 = M.pbytes ⟨no, kd, cs⟩ by
                  have e : M.taken cs = tk := by rw [HTk.out, HC.out.1]
                  rw [show j = 248 - M.taken cs by rw [e]; have h1 := HJ.out.1; have h2 := HLt.out; omega]
                  exact bytes_end no kd cs HC.out.2.2.1)
                go_wp2_with fail
                go_ret
                exact ⟨za2, zc2, rfl, by rw [← HP.out]; exact HJ.out.2.row, HJ.out.2.adds⟩
end Go.Proofs.Ytplppnngmlljnaa

/- The reference's Parse: what bytes are by definition, its state, its second loop's state. -/
namespace Go.Proofs.Ytplppnngmlljnaa.M

/-- The parts of 256 bytes. -/
def pNo (bs : List UInt8) : Nat := unfix (bs.take 4)
def pKd (bs : List UInt8) : UInt8 := bs.getD 4 0
def pN (bs : List UInt8) : Nat := (bs.getD 5 0).toNat
def pT (bs : List UInt8) : Nat := unfix ((bs.drop 6).take 2)
def pEs (bs : List UInt8) : List UInt8 := ((bs.drop 8).take 244).take (2 * pN bs)
def pAll (bs : List UInt8) : List UInt8 := ((bs.drop 8).take 244).drop (2 * pN bs)
/-- The first k cells. -/
def pCut (bs : List UInt8) (k : Nat) : Option (List (List UInt8) × Nat) := cutK (pEs bs) (pAll bs) (pT bs) k
theorem unfix4 (a b c d : UInt8) : unfix [a, b, c, d] = ((a.toNat * 256 + b.toNat) * 256 + c.toNat) * 256 + d.toNat := by simp [unfix]
theorem no_high {bs : List UInt8} (hl : bs.length = 256) : 2147483647 < pNo bs ↔ 127 < (bs.getD 0 0).toNat := by
  match bs, hl with
  | a :: b :: c :: d :: l, _ =>
    show 2147483647 < unfix [a, b, c, d] ↔ 127 < a.toNat
    rw [unfix4]
    have h1 := a.toNat_lt
    have h2 := b.toNat_lt
    have h3 := c.toNat_lt
    have h4 := d.toNat_lt
    omega
theorem read_parts {bs : List UInt8} (hl : bs.length = 256) : readP bs = if 2147483647 < pNo bs ∨ pKd bs = 0 ∨ 244 < 2 * pN bs + pT bs then none else
    match pCut bs (pN bs) with
    | none => none
    | some x => if x.2 = pT bs ∧ some0 ((pAll bs).drop (pT bs)) = false then some ⟨pNo bs, pKd bs, x.1⟩ else none := by
  have h1 : ¬ bs.length ≠ 256 := by omega
  rw [readP, if_neg h1]
  show (match cutC ((bs.drop 8).take 244) (pN bs) (pT bs) with
    | none => none
    | some cs => if 2147483647 < pNo bs ∨ pKd bs = 0 then none else some (⟨pNo bs, pKd bs, cs⟩ : Pg)) = _
  unfold cutC
  by_cases h2 : 244 < 2 * pN bs + pT bs
  · rw [if_pos h2, if_pos (.inr (.inr h2))]
  · rw [if_neg h2]
    show (match (match pCut bs (pN bs) with
      | none => none
      | some x => if x.2 = pT bs ∧ some0 ((pAll bs).drop (pT bs)) = false then some x.1 else none) with
      | none => none
      | some cs => if 2147483647 < pNo bs ∨ pKd bs = 0 then none else some (⟨pNo bs, pKd bs, cs⟩ : Pg)) = _
    cases pCut bs (pN bs) with
    | none => simp
    | some x =>
      simp only
      by_cases h3 : x.2 = pT bs ∧ some0 ((pAll bs).drop (pT bs)) = false
      · rw [if_pos h3, if_pos h3]
        simp only
        by_cases h4 : 2147483647 < pNo bs ∨ pKd bs = 0
        · rw [if_pos h4, if_pos (by rcases h4 with c | c; exact .inl c; exact .inr (.inl c))]
        · rw [if_neg h4, if_neg (fun c => by rcases c with c | c | c; exact h4 (.inl c); exact h4 (.inr c); exact h2 c)]
      · rw [if_neg h3, if_neg h3]
        simp
/-- Where the reference's reader stands. -/
theorem es_take {bs : List UInt8} {k : Nat} (hk : k < pN bs) (h : 2 * pN bs ≤ 244) : ((pEs bs).drop (2 * k)).take 2 = (bs.drop (8 + 2 * k)).take 2 := by
  unfold pEs
  rw [List.take_take, Nat.min_eq_left h, List.drop_take, List.drop_drop, List.take_take, Nat.min_eq_left (by omega)]
theorem all_take {bs : List UInt8} (h : 2 * pN bs + pT bs ≤ 244) : (pAll bs).take (pT bs) = (bs.drop (8 + 2 * pN bs)).take (pT bs) := by
  unfold pAll
  rw [List.drop_take, List.drop_drop, List.take_take, Nat.min_eq_left (by omega)]
theorem cut_cuts {bs : List UInt8} (hl : bs.length = 256) (h : 2 * pN bs + pT bs ≤ 244) {k : Nat} (hk : k ≤ pN bs) {cs : List (List UInt8)} {b : Nat} (hc : pCut bs k = some (cs, b)) : Cuts (pEs bs) (pAll bs) (pT bs) k cs b :=
  cutK_is (by unfold pAll; rw [List.length_drop, List.length_take, List.length_drop]; omega) k cs b (by unfold pEs; rw [List.length_take, List.length_take, List.length_drop]; omega) hc
/-- A cell as the reference reads it. -/
theorem cell_read {L : List UInt8} {cs : List (List UInt8)} (h : cs.flatten = L.take cs.flatten.length) {i : Nat} {c : List UInt8} (hc : cs[i]? = some c) : (L.drop (cs.take i).flatten.length).take c.length = c := by
  have e2 : cs = cs.take i ++ ([c] ++ cs.drop (i + 1)) := by
    have e1 : cs.take (i + 1) = cs.take i ++ [c] := by rw [List.take_add_one, hc]; rfl
    rw [← List.append_assoc, ← e1, List.take_append_drop]
  have e3 : cs.flatten = (cs.take i).flatten ++ (c ++ (cs.drop (i + 1)).flatten) := by
    conv => lhs; rw [e2]
    simp
  have e4 : (cs.flatten.drop (cs.take i).flatten.length).take c.length = c := by
    rw [e3, List.drop_left' rfl, List.take_left' rfl]
  rw [h, List.drop_take, List.take_take] at e4
  have hle : c.length ≤ cs.flatten.length - (cs.take i).flatten.length := by
    rw [e3, List.length_append, List.length_append]; omega
  rwa [Nat.min_eq_left hle] at e4
/-- What is found in the end. -/
theorem read_last {bs : List UInt8} (hl : bs.length = 256) (h1 : ¬ 2147483647 < pNo bs) (h2 : pKd bs ≠ 0) (h3 : 2 * pN bs + pT bs ≤ 244) {cs : List (List UInt8)} (hc : pCut bs (pN bs) = some (cs, pT bs)) :
    (⟨pNo bs, pKd bs, cs⟩ : Pg).Ok ∧ readP bs = if pfirst ⟨pNo bs, pKd bs, cs⟩ = bs.take 252 then some ⟨pNo bs, pKd bs, cs⟩ else none := by
  have q := cut_cuts hl h3 (Nat.le_refl _) hc
  have hok : (⟨pNo bs, pKd bs, cs⟩ : Pg).Ok := ⟨by show pNo bs < _; omega, h2, by show taken cs ≤ 244; rw [taken, q.n, q.at_]; exact h3⟩
  refine ⟨hok, ?_⟩
  by_cases he : pfirst ⟨pNo bs, pKd bs, cs⟩ = bs.take 252
  · rw [if_pos he]
    exact read_of hok hl he.symm
  · rw [if_neg he, read_parts hl, if_neg (fun c => by rcases c with c | c | c; exact h1 c; exact h2 c; omega), hc]
    simp only
    by_cases h4 : some0 ((pAll bs).drop (pT bs)) = false
    · exfalso
      have hr : readP bs = some ⟨pNo bs, pKd bs, cs⟩ := by
        rw [read_parts hl, if_neg (fun c => by rcases c with c | c | c; exact h1 c; exact h2 c; omega), hc]
        simp only
        rw [if_pos ⟨trivial, h4⟩]
      exact he (read_ok hr).2.2.symm
    · rw [if_neg (fun c => h4 c.2)]
theorem read_not {bs : List UInt8} (hl : bs.length = 256) (h : 2147483647 < pNo bs ∨ pKd bs = 0 ∨ 244 < 2 * pN bs + pT bs) : readP bs = none := by
  rw [read_parts hl, if_pos h]
theorem read_none {bs : List UInt8} (hl : bs.length = 256) (h : pCut bs (pN bs) = none) : readP bs = none := by
  rw [read_parts hl, h]; simp
theorem read_rest {bs : List UInt8} (hl : bs.length = 256) {cs : List (List UInt8)} {b : Nat} (h : pCut bs (pN bs) = some (cs, b)) (hb : b ≠ pT bs) : readP bs = none := by
  rw [read_parts hl, h]
  split
  · rfl
  · exact if_neg (fun c => hb c.1)
end Go.Proofs.Ytplppnngmlljnaa.M

namespace Go.Proofs.Ytplppnngmlljnaa
open Go.RowKit

theorem IsS.above {w w' : World} {T : Nat → Prop} {p : Nat} {s : M.St} (h : IsS w p s) (hT : Touch T w w') (hp : ∀ k, T k → p < k) : IsS w' p s := by
  obtain ⟨a, cap, hb, hL⟩ := h.box
  exact ⟨⟨a, cap, hT.at' hb (fun c => by have := hp p c; omega), ⟨hL.at_.block (fun b o e hb => hT.block b hb (fun c => by have h1 : b < p := (hL.low _ e).2; have := hp b c; omega)), hL.room, hL.non, hL.low⟩⟩, h.good, h.len, h.err⟩
theorem rfixed_put {p : Nat} {l : List UInt8} {w : World} (z : Int) (k : Nat) (x : Nat) (hz : M.clamp z = k) (hl : k ≤ l.length) (hx : M.unfix (l.take k) = x) (h : IsS w p ⟨0, l⟩) : Calls Try.prog 53 #[Ptr p, .int .i64 z] w (PS w p (.int .u64 (x : Int)) ⟨0, l.drop k⟩) := by
  have q := rfixed_any z h
  rw [fixedR_ok hz hl, hx] at q
  exact q
/-- What Parse has found so far: the result's box R, the reader P, the page's box G. -/
structure Ps (w wi : World) (B : Nat) (l : List UInt8) (no kd : Int) (v : Value) : Prop where
  rd : IsS wi (B + 1) ⟨0, l⟩
  pg : wi.heap[B + 2]? = some (.cells #[.int .i64 no, .int .u8 kd, v] 84 (0, 0))
  rs : wi.heap[B]? = some (.cells #[.int .i64 0, .int .u8 0, .slice none 0 0] 84 (0, 0))
  adds : Adds w wi
  base : B = w.heap.size
theorem Ps.reader {w wi w' : World} {B : Nat} {l l' : List UInt8} {no kd : Int} {v : Value} (h : Ps w wi B l no kd v) (hr : IsS w' (B + 1) ⟨0, l'⟩) (hT : Touch (Own1 (.pointer (some ⟨B + 1, 0, none⟩))) wi w') : Ps w w' B l' no kd v := by
  have ho : ∀ k, Own1 (.pointer (some ⟨B + 1, 0, none⟩)) k → k = B + 1 := fun k c => by simp only [Own1, Value.pointer.injEq, Option.some.injEq, Addr.mk.injEq] at c; omega
  exact ⟨hr, hT.at' h.pg (fun c => by have := ho _ c; omega), hT.at' h.rs (fun c => by have := ho _ c; omega), h.adds.then hT (fun i hi c => by have := ho _ c; have := h.base; omega), h.base⟩
theorem Ps.up {w wi w' : World} {T : Nat → Prop} {B : Nat} {l : List UInt8} {no kd : Int} {v : Value} (h : Ps w wi B l no kd v) (hT : Touch T wi w') (hn : ∀ k, T k → B + 2 < k) : Ps w w' B l no kd v :=
  ⟨h.rd.above hT (fun k c => by have := hn k c; omega), hT.at' h.pg (fun c => by have := hn _ c; omega), hT.at' h.rs (fun c => by have := hn _ c; omega), h.adds.then hT (fun i hi c => by have := hn _ c; have := h.base; omega), h.base⟩
theorem Ps.add {w wi w' : World} {B : Nat} {l : List UInt8} {no kd : Int} {v : Value} (h : Ps w wi B l no kd v) (hT : Adds wi w') : Ps w w' B l no kd v := h.up hT (fun _ c => c.elim)
theorem Ps.put {w wi : World} {B : Nat} {l : List UInt8} {no kd no' kd' : Int} {v v' x : Value} (h : Ps w wi B l no kd v) (j : Nat) (e : (#[.int .i64 no, .int .u8 kd, v] : Array Value).setIfInBounds j x = #[.int .i64 no', .int .u8 kd', v']) : Ps w (wi.setCell ⟨B + 2, j, none⟩ x) B l no' kd' v' := by
  have hT : Touch (fun k => k = B + 2) wi (wi.setCell ⟨B + 2, j, none⟩ x) := Touch.setCell (T := fun k => k = B + 2) (Touch.refl _ wi) (p := ⟨B + 2, j, none⟩) (fun _ => rfl) _
  refine ⟨h.rd.above hT (fun k c => by omega), ?_, hT.at' h.rs (by omega), h.adds.then hT (fun i hi c => by have := h.base; omega), h.base⟩
  rw [heap_setCell_same wi (B + 2) j _ 84 _ h.pg, e]
theorem Ps.cell {w wi : World} {B : Nat} {l : List UInt8} {no kd : Int} {v : Value} (h : Ps w wi B l no kd v) : (wi.cell? ⟨B + 2, 0, none⟩ = some (.int .i64 no) ∧ wi.cell? ⟨B + 2, 1, none⟩ = some (.int .u8 kd) ∧ wi.cell? ⟨B + 2, 2, none⟩ = some v) ∧ (wi.frozen? ⟨B + 2, 0, none⟩ = false ∧ wi.frozen? ⟨B + 2, 1, none⟩ = false ∧ wi.frozen? ⟨B + 2, 2, none⟩ = false) :=
  ⟨⟨by have q := cellOf h.pg 0; simpa using q, by have q := cellOf h.pg 1; simpa using q, by have q := cellOf h.pg 2; simpa using q⟩, frozen_of_row wi _ 0 _ 84 h.pg, frozen_of_row wi _ 1 _ 84 h.pg, frozen_of_row wi _ 2 _ 84 h.pg⟩
theorem Ps.res {w wi : World} {B : Nat} {l : List UInt8} {no kd : Int} {v : Value} (h : Ps w wi B l no kd v) : (wi.cell? ⟨B, 0, none⟩ = some (.int .i64 0) ∧ wi.cell? ⟨B, 1, none⟩ = some (.int .u8 0) ∧ wi.cell? ⟨B, 2, none⟩ = some (.slice none 0 0)) ∧ (wi.frozen? ⟨B, 0, none⟩ = false ∧ wi.frozen? ⟨B, 1, none⟩ = false ∧ wi.frozen? ⟨B, 2, none⟩ = false) :=
  ⟨⟨by have q := cellOf h.rs 0; simpa using q, by have q := cellOf h.rs 1; simpa using q, by have q := cellOf h.rs 2; simpa using q⟩, frozen_of_row wi _ 0 _ 84 h.rs, frozen_of_row wi _ 1 _ 84 h.rs, frozen_of_row wi _ 2 _ 84 h.rs⟩
/-- A part of one's own: room for what it has, and a block that is there. -/
def Rm (n : Nat) (p : Part) : Prop := p.bs.length ≤ p.cap ∧ ∀ ad, p.a = some ad → ad.spot = none ∧ ad.block < n
theorem Rm.mono {n m : Nat} {p : Part} (h : Rm n p) (hm : n ≤ m) : Rm m p := ⟨h.1, fun ad e => ⟨(h.2 ad e).1, Nat.lt_of_lt_of_le (h.2 ad e).2 hm⟩⟩
theorem row_rm {w : World} {B : Nat} {e : TypeId} {a : Option Addr} {n m cap : Nat} {xs : List Value} (h : w.ownsRow B e 1 (.slice a n cap) m xs) : ∀ ad, a = some ad → ad.spot = none ∧ ad.block < w.heap.size := fun ad ea => by
  rcases h.2 with ⟨q, _⟩ | ⟨g, cap2, cur, q, _, hg, _⟩
  · injection q with q1; rw [q1] at ea; cases ea
  · injection q with q1; rw [q1] at ea; cases ea; exact ⟨rfl, (Array.getElem?_eq_some_iff.1 hg).1⟩
/-- What Parse tells. -/
def PParse (w : World) (bs : List UInt8) (e : Ending) (w' : World) : Prop := ∃ va vc, ∃ hs : List Part, e = .returned (.tuple #[.agg #[.int .i64 (M.noP bs : Int), .int .u8 ((M.kindP bs).toNat : Int), .slice va hs.length vc], .bool (M.readP bs).isSome]) ∧ Hid (hs.map (·.bs) = M.cellsP bs ∧ GQ w' (fun k => w.heap.size ≤ k) ⟨va, vc, hs⟩ ∧ Adds w w' ∧ hs.length ≤ vc ∧ ∀ p ∈ hs, Rm w'.heap.size p)
theorem PParse.no {w w' : World} {bs : List UInt8} (h : M.readP bs = none) (hA : Adds w w') : PParse w bs (.returned (.tuple #[.agg #[.int .i64 0, .int .u8 0, .slice none 0 0], .bool false])) w' := by
  obtain ⟨h1, h2, h3, _⟩ := M.none_all h
  exact ⟨none, 0, [], by rw [h1, h2, h]; rfl, by rw [h3]; rfl, ⟨CQ.nil _ _ _, fun _ => rfl, fun x hx => by cases hx⟩, hA, Nat.le_refl _, fun x hx => by cases hx⟩
/-- The result's three cells stored. -/
theorem res_adds {w wi : World} {B : Nat} (hB : B = w.heap.size) (hA : Adds w wi) (x y z : Value) : Adds w (((wi.setCell ⟨B, 0, none⟩ x).setCell ⟨B, 1, none⟩ y).setCell ⟨B, 2, none⟩ z) := by
  subst hB
  exact ((hA.setCell (fun h => absurd h (Nat.lt_irrefl _)) _).setCell (fun h => absurd h (Nat.lt_irrefl _)) _).setCell (fun h => absurd h (Nat.lt_irrefl _)) _
set_option maxRecDepth 100000 in
set_option maxHeartbeats 1000000 in
theorem rparse_long (a : Option Addr) (bs : List UInt8) (n cap : Nat) (w : World) (hn : bs.length = n) (h : n ≠ 256) : Calls Try.prog 51 #[.slice a n cap] w (PParse w bs) := by
  have HN := hid (show M.readP bs = none by rw [M.readP, if_pos (by omega)])
  have h1 : ((n : Int) != 256) = true := by simp; omega
  clear h hn
  go_enter Try.func51, Try.ntmps51
  go_wp2_with fail
  refine bodyPost_ret (v := .tuple #[.agg #[.int .i64 0, .int .u8 0, .slice none 0 0], .bool false]) (by simp [results, Try.results51, go_sem]) rfl (PParse.no HN.out ?_)
  repeat (first | exact Touch.refl _ _ | refine Touch.alloc ?_ _ | refine Touch.setCell ?_ (fun h => absurd h (by simp)) _)
set_option maxRecDepth 100000 in
set_option maxHeartbeats 1000000 in
theorem rparse_head (b o : Nat) (bs : List UInt8) (cap : Nat) (w : World) (hn : bs.length = 256) (hA : At w (some ⟨b, o, none⟩) bs) (h : 127 < (bs.getD 0 0).toNat ∨ M.pKd bs = 0) : Calls Try.prog 51 #[.slice (some ⟨b, o, none⟩) 256 cap] w (PParse w bs) := by
  have HN := hid (show M.readP bs = none from M.read_not hn (by rcases h with c | c; exact .inl ((M.no_high hn).2 c); exact .inr (.inl c)))
  obtain ⟨wA, hwA⟩ : ∃ wA, wA = w.alloc (Obj.cells #[Value.int IntKind.i64 0, Value.int IntKind.u8 0, Value.slice none 0 0] 84) := ⟨_, rfl⟩
  have hA' := hA.adds (show Adds w wA by rw [hwA]; exact (Touch.refl _ w).alloc _)
  obtain ⟨_, _, ec, c0⟩ := hA' 0 (bs.getD 0 0) (by rw [List.getD_eq_getElem?_getD, List.getElem?_eq_getElem (by omega : 0 < bs.length)]; rfl)
  cases ec
  obtain ⟨_, _, ec, c4⟩ := hA' 4 (M.pKd bs) (by rw [M.pKd, List.getD_eq_getElem?_getD, List.getElem?_eq_getElem (by omega : 4 < bs.length)]; rfl)
  cases ec
  rw [hwA] at c0 c4
  rw [Nat.add_zero] at c0
  generalize bs.getD 0 0 = x0 at *
  generalize M.pKd bs = x4 at *
  clear hA hA' hwA
  by_cases h0 : 127 < x0.toNat
  · have h0' : (127 : Int) < (x0.toNat : Int) := by omega
    clear h
    go_enter Try.func51, Try.ntmps51
    go_wp2_with fail
    refine bodyPost_ret (v := .tuple #[.agg #[.int .i64 0, .int .u8 0, .slice none 0 0], .bool false]) (by simp [results, Try.results51, go_sem]) rfl (PParse.no HN.out ?_)
    repeat (first | exact Touch.refl _ _ | refine Touch.alloc ?_ _ | refine Touch.setCell ?_ (fun h => absurd h (by simp)) _)
  · obtain rfl : x4 = 0 := h.resolve_left h0
    have h0' : decide ((127 : Int) < (x0.toNat : Int)) = false := by simp; omega
    clear h h0
    go_enter Try.func51, Try.ntmps51
    go_wp2_with fail
    refine bodyPost_ret (v := .tuple #[.agg #[.int .i64 0, .int .u8 0, .slice none 0 0], .bool false]) (by simp [results, Try.results51, go_sem]) rfl (PParse.no HN.out ?_)
    repeat (first | exact Touch.refl _ _ | refine Touch.alloc ?_ _ | refine Touch.setCell ?_ (fun h => absurd h (by simp)) _)
end Go.Proofs.Ytplppnngmlljnaa

namespace Go.Proofs.Ytplppnngmlljnaa
open Go.RowKit

/-- Bytes taken, where they are there. -/
def PTk (wi : World) (p : Nat) (l : List UInt8) (n : Nat) (e : Ending) (w' : World) : Prop := ∃ a cap, e = .returned (.slice a n cap) ∧ Hid (At w' a (l.take n) ∧ (a = none → cap = 0) ∧ IsS w' p ⟨0, l.drop n⟩ ∧ Touch (Own1 (.pointer (some ⟨p, 0, none⟩))) wi w')
theorem rtake_put {p : Nat} {l : List UInt8} {w : World} (n : Nat) (h : IsS w p ⟨0, l⟩) (hn : n ≤ l.length) : Calls Try.prog 80 #[.pointer (some ⟨p, 0, none⟩), .int .i64 (n : Int)] w (PTk w p l n) := by
  obtain ⟨a, cap, hb, hL⟩ := h.box
  refine (rtake_ok p a _ cap n w hb hn hL.room).mono ?_
  rintro e w' ⟨rfl, hw⟩
  rw [← List.length_drop] at hw
  obtain ⟨h1, h2⟩ := h.set (e := 0) (l := l.drop n) hw (hL.drop n hn) (fun h => absurd rfl h) (by rw [List.length_drop]; have h3 : l.length ≤ 1000000 := h.len; omega) (by omega)
  refine ⟨a, cap, rfl, (hL.at_.pre n).block (fun b o e hb => ?_), hL.non, h1, h2⟩
  refine h2.block b hb (fun c => ?_)
  have h3 : b < p := (hL.low _ e).2
  simp only [Own1, Value.pointer.injEq, Option.some.injEq, Addr.mk.injEq] at c
  omega
theorem own_is {w : World} {B : Nat} {e : TypeId} {v : Value} {n : Nat} {xs : List Value} (h : w.ownsRow B e 1 v n xs) {q : Nat} {u : Value} (hq : xs[q]? = some u) : ∃ g cap, v = .slice (some ⟨g, 0, none⟩) n cap ∧ w.cell? ⟨g, q, none⟩ = some u := by
  obtain ⟨a, cap, e1, _, _, hc⟩ := own_cq h
  obtain ⟨b, o, e2, hb, hcell⟩ := hc q u hq
  rcases h.2 with ⟨e3, e4⟩ | ⟨g, cap', cur, e3, _⟩
  · have := h.1; rw [e4] at this; rw [List.eq_nil_of_length_eq_zero this] at hq; simp at hq
  · rw [e1] at e3
    cases e3
    cases e2
    exact ⟨_, _, e1, by rw [Nat.zero_add] at hcell; exact hcell⟩
/-- What Parse's second loop has. -/
structure L2 (w wi : World) (B : Nat) (l : List UInt8) (no kd : Int) (v : Value) (ts : List Part) (sv : Value) (N : Nat) (zs : List Value) : Prop where
  ps : Ps w wi B l no kd v
  fr : Fresh (B + 3) wi v ts
  sz : wi.ownsRow 0 3 1 sv N zs
  hi : ∀ j, sv.ownBlock = some j → B + 2 < j
  rm : ∀ p ∈ ts, Rm wi.heap.size p
theorem L2.size {w wi : World} {B : Nat} {l : List UInt8} {no kd : Int} {v : Value} {ts : List Part} {sv : Value} {N : Nat} {zs : List Value} (h : L2 w wi B l no kd v ts sv N zs) : B + 3 ≤ wi.heap.size := lt_of_heap h.ps.pg
theorem L2.apart {w wi : World} {B : Nat} {l : List UInt8} {no kd : Int} {v : Value} {ts : List Part} {sv : Value} {N : Nat} {zs : List Value} (h : L2 w wi B l no kd v ts sv N zs) {j : Nat} (h1 : sv.ownBlock = some j) (h2 : v.ownBlock = some j) : False := by
  obtain ⟨c1, e1⟩ := row_type h.sz h1
  obtain ⟨c2, e2⟩ := row_type h.fr.rows h2
  rw [e1] at e2
  simp at e2
theorem own1_eq {p k : Nat} (h : Own1 (.pointer (some ⟨p, 0, none⟩)) k) : k = p := by
  simp only [Own1, Value.pointer.injEq, Option.some.injEq, Addr.mk.injEq] at h; omega
/-- The reader alone has turned. -/
theorem L2.take {w wi w' : World} {B : Nat} {l l' : List UInt8} {no kd : Int} {v : Value} {ts : List Part} {sv : Value} {N : Nat} {zs : List Value} (h : L2 w wi B l no kd v ts sv N zs) (hr : IsS w' (B + 1) ⟨0, l'⟩) (hT : Touch (Own1 (.pointer (some ⟨B + 1, 0, none⟩))) wi w') : L2 w w' B l' no kd v ts sv N zs :=
  ⟨h.ps.reader hr hT, h.fr.touch hT (fun k hk c => by have := own1_eq c; omega), row_touch h.sz hT (fun k hk c => by have := own1_eq c; have := h.hi k hk; omega), h.hi, fun p hp => (h.rm p hp).mono hT.size⟩
theorem L2.add {w wi w' : World} {B : Nat} {l : List UInt8} {no kd : Int} {v : Value} {ts : List Part} {sv : Value} {N : Nat} {zs : List Value} (h : L2 w wi B l no kd v ts sv N zs) (hA : Adds wi w') : L2 w w' B l no kd v ts sv N zs :=
  ⟨h.ps.add hA, h.fr.touch hA (fun _ _ => id), row_touch h.sz hA (fun _ _ => id), h.hi, fun p hp => (h.rm p hp).mono hA.size⟩
/-- The result's three cells stored beside a list. -/
theorem res_gq {wi : World} {B : Nat} {g : Pl} (h : GQ wi (fun k => B + 3 ≤ k) g) (x y z : Value) : GQ (((wi.setCell ⟨B, 0, none⟩ x).setCell ⟨B, 1, none⟩ y).setCell ⟨B, 2, none⟩ z) (fun k => B ≤ k) g := by
  have hT : Touch (fun k => k = B) wi (((wi.setCell ⟨B, 0, none⟩ x).setCell ⟨B, 1, none⟩ y).setCell ⟨B, 2, none⟩ z) := Touch.setCell (T := fun k => k = B) (Touch.setCell (T := fun k => k = B) (Touch.setCell (T := fun k => k = B) (Touch.refl _ wi) (p := ⟨B, 0, none⟩) (fun _ => rfl) x) (p := ⟨B, 1, none⟩) (fun _ => rfl) y) (p := ⟨B, 2, none⟩) (fun _ => rfl) z
  exact (h.touch hT (fun k hk c => by omega)).mono (fun k _ hk => by omega)
/-- What the round's region reads. -/
def S26 (B : Nat) (no kd : Int) (v : Value) (sg q : Nat) (z : Int) (w' : World) : Prop := w'.heap[B + 2]? = some (.cells #[.int .i64 no, .int .u8 kd, v] 84 (0, 0)) ∧ w'.cell? ⟨sg, q, none⟩ = some (.int .i64 z)
theorem S26.touch {T : Nat → Prop} {B : Nat} {no kd : Int} {v : Value} {sg q : Nat} {z : Int} {w w' : World} (h : S26 B no kd v sg q z w) (hT : Touch T w w') (h1 : ¬ T (B + 2)) (h2 : ¬ T sg) : S26 B no kd v sg q z w' :=
  ⟨hT.at' h.1 h1, by rw [World.cell?_of_block (w := w) (hT.block sg (World.block_lt_of_cell? w _ h.2) h2)]; exact h.2⟩
/-- A cell's bytes taken, beside an empty row. -/
structure M2 (wr wX : World) (B g : Nat) (l : List UInt8) (n : Nat) (xa : Option Addr) (xc : Nat) : Prop where
  rd : IsS wX (B + 1) ⟨0, l.drop n⟩
  T : Touch (Own1 (.pointer (some ⟨B + 1, 0, none⟩))) wr wX
  row : wX.ownsRow g 5 1 (.slice (some ⟨g, 0, none⟩) 0 0) 0 []
  new : wr.heap.size ≤ g
  lt : g ≤ wX.heap.size
  at_ : At wX xa (l.take n)
  non : xa = none → xc = 0
theorem row_lit5 (w : World) : (w.alloc (.cells #[] 5)).ownsRow w.heap.size 5 1 (.slice (some ⟨w.heap.size, 0, none⟩) 0 0) 0 [] := World.ownsRow_lit (base := w.heap.size) (e := 5) (size := 1) w #[] 0 (Nat.le_refl _) (by decide) rfl
theorem M2.a {wr w' : World} {B : Nat} {l : List UInt8} {n : Nat} {xa : Option Addr} {xc : Nat} (hB : B + 3 ≤ wr.heap.size) (h : At w' xa (l.take n) ∧ (xa = none → xc = 0) ∧ IsS w' (B + 1) ⟨0, l.drop n⟩ ∧ Touch (Own1 (.pointer (some ⟨B + 1, 0, none⟩))) (wr.alloc (.cells #[] 5)) w') : M2 wr w' B wr.heap.size l n xa xc :=
  ⟨h.2.2.1, ((Touch.refl _ wr).alloc _).trans h.2.2.2, row_touch (row_lit5 wr) h.2.2.2 (fun k hk c => by have := own1_eq c; simp [Value.ownBlock] at hk; omega), Nat.le_refl _, by have := h.2.2.2.size; simp at this; omega, h.1, h.2.1⟩
theorem M2.b {wr w' : World} {B : Nat} {l : List UInt8} {n : Nat} {xa : Option Addr} {xc : Nat} (h : At w' xa (l.take n) ∧ (xa = none → xc = 0) ∧ IsS w' (B + 1) ⟨0, l.drop n⟩ ∧ Touch (Own1 (.pointer (some ⟨B + 1, 0, none⟩))) wr w') : M2 wr (w'.alloc (.cells #[] 5)) B w'.heap.size l n xa xc :=
  have hA : Adds w' (w'.alloc (.cells #[] 5)) := (Touch.refl _ w').alloc _
  ⟨h.2.2.1.above hA (fun _ c => c.elim), h.2.2.2.trans (hA.mono (fun _ _ c => c.elim)), row_lit5 w', h.2.2.2.size, by simp, h.1.adds hA, h.2.1⟩
/-- The bytes in a row of their own. -/
structure N2 (wr wY : World) (B : Nat) (l : List UInt8) (y : Part) : Prop where
  rd : IsS wY (B + 1) ⟨0, l⟩
  T : Touch (Own1 (.pointer (some ⟨B + 1, 0, none⟩))) wr wY
  pq : PQ wY (fun k => wr.heap.size ≤ k) y
  rm : Rm wY.heap.size y
theorem M2.next {wr wX wY : World} {B g : Nat} {l : List UInt8} {n m : Nat} {xa : Option Addr} {xc : Nat} {v1 : Value} (h : M2 wr wX B g l n xa xc) (hB : B + 3 ≤ wr.heap.size) (hm : (l.take n).length = m) (h1 : wY.ownsRow g 5 1 v1 m ([] ++ S (l.take n))) (h2 : wX.grownBy wY (some g)) : ∃ ya yc, v1 = .slice ya m yc ∧ PV ⟨ya, l.take n, yc⟩ = .slice ya m yc ∧ N2 wr wY B (l.drop n) ⟨ya, l.take n, yc⟩ := by
  obtain ⟨ya, yc, e1, hrm, hn, hq⟩ := own_cq h1
  have hT : Touch (fun k => k = g) wX wY := ⟨h2.os, h2.tape, h2.output, h2.size, fun k hk hne => h2.block k hk (fun c => hne (by cases c; rfl))⟩
  refine ⟨ya, yc, e1, by rw [← hm], h.rd.above hT (fun k c => by have := h.new; omega), ⟨h2.os.trans h.T.os, h2.tape.trans h.T.tape, h2.output.trans h.T.output, Nat.le_trans h.T.size h2.size, fun k hk hne => ?_⟩, ⟨?_, hn⟩, ⟨by show (l.take n).length ≤ yc; rw [hm]; exact hrm, by subst e1; exact row_rm h1⟩⟩
  · rw [← h.T.block k hk hne]
    exact h2.block k (Nat.lt_of_lt_of_le hk h.T.size) (fun c => by cases c; exact absurd hk (Nat.not_lt.2 h.new))
  · have q := hq.mono (Q' := fun k => wr.heap.size ≤ k) (fun k _ c => Nat.le_trans h.new (row_low h1 c).1)
    simpa using q
/-- One more cell. -/
theorem L2.more {w wr wY wZ w5 : World} {B : Nat} {l l' : List UInt8} {no kd : Int} {v v' : Value} {ts : List Part} {sv : Value} {N : Nat} {zs : List Value} {y : Part} (h : L2 w wr B l no kd v ts sv N zs) (hN : N2 wr wY B l' y) (hA : Adds wY wZ) (hG : Grew wZ w5 30 v v' (ts.length + 1) (ts.map PV ++ [PV y])) : L2 w (w5.setCell ⟨B + 2, 2, none⟩ v') B l' no kd v' (ts ++ [y]) sv N zs := by
  have h1 := (h.take hN.rd hN.T).add hA
  have hT := hG.touch
  have hP := h1.ps.up hT (fun k c => h.fr.own k c)
  have hF : Fresh (B + 3) w5 v' (ts ++ [y]) := (h.take hN.rd hN.T).fr.more hA hG (by have := h.size; have := hN.T.size; omega) (by
    refine (hN.pq.adds hA).mono (fun k _ c => ⟨by have := h.size; omega, fun e => ?_⟩)
    have := (row_low h.fr.rows e).2
    omega)
  have hS : Touch (fun k => k = B + 2) w5 (w5.setCell ⟨B + 2, 2, none⟩ v') := Touch.setCell (T := fun k => k = B + 2) (Touch.refl _ w5) (p := ⟨B + 2, 2, none⟩) (fun _ => rfl) _
  exact ⟨hP.put 2 rfl, hF.touch hS (fun k hk c => by omega), row_touch (row_touch h1.sz hT (fun k hk c => h1.apart hk c)) hS (fun k hk c => by have := h.hi k hk; omega), h.hi, fun p hp => (List.mem_append.1 hp).elim (fun hp => (h1.rm p hp).mono (Nat.le_trans hT.size hS.size)) (fun hp => by rw [List.mem_singleton.1 hp]; exact hN.rm.mono (Nat.le_trans hA.size (Nat.le_trans hT.size hS.size)))⟩
theorem L2.s {w wr : World} {B : Nat} {l : List UInt8} {no kd : Int} {v : Value} {ts : List Part} {N sg sc q : Nat} {zs : List Value} {z : Int} (h : L2 w wr B l no kd v ts (.slice (some ⟨sg, 0, none⟩) N sc) N zs) (hc : wr.cell? ⟨sg, q, none⟩ = some (.int .i64 z)) : S26 B no kd v sg q z wr := ⟨h.ps.pg, hc⟩
theorem N2.s {wr wY : World} {B : Nat} {l : List UInt8} {y : Part} {no kd : Int} {v : Value} {sg q : Nat} {z : Int} (h : N2 wr wY B l y) (hS : S26 B no kd v sg q z wr) (hg : B + 2 < sg) : S26 B no kd v sg q z wY := hS.touch h.T (fun c => by have := own1_eq c; omega) (fun c => by have := own1_eq c; omega)
theorem M2.s {wr wX : World} {B g n : Nat} {l : List UInt8} {xa : Option Addr} {xc : Nat} {no kd : Int} {v : Value} {sg q : Nat} {z : Int} (h : M2 wr wX B g l n xa xc) (hS : S26 B no kd v sg q z wr) (hg : B + 2 < sg) : S26 B no kd v sg q z wX := hS.touch h.T (fun c => by have := own1_eq c; omega) (fun c => by have := own1_eq c; omega)
theorem L2.s5 {w wr wY wZ w5 : World} {B : Nat} {l l' : List UInt8} {no kd : Int} {v v' : Value} {ts : List Part} {N sg sc q : Nat} {zs : List Value} {z : Int} {y : Part} (h : L2 w wr B l no kd v ts (.slice (some ⟨sg, 0, none⟩) N sc) N zs) (hN : N2 wr wY B l' y) (hA : Adds wY wZ) {n : Nat} {xs : List Value} (hG : Grew wZ w5 30 v v' n xs) (hS : S26 B no kd v sg q z wr) : S26 B no kd v sg q z w5 :=
  ((hN.s hS (h.hi sg rfl)).touch hA id id).touch hG.touch (fun c => by have := h.fr.own _ c; omega) (fun c => h.apart (j := sg) rfl c)
theorem wp_append_b1 {w : World} {o : Oper} {act : Act} {K : Act → World → Prop} {Q : Exit → Act → World → Prop} (s x : Operand)
    (ho : o.op = .call { callee := .builtin .append, args := #[s, x], argTypes := #[23, 23] }) (v : Value) (n : Nat) (xs : List Value) (hs : act.eval s = v) (hown : w.ownsRow 0 30 1 v n xs)
    (g : Nat) (u : Value) (hx : act.eval x = .slice (some ⟨g, 0, none⟩) 1 1) (hc : w.cell? ⟨g, 0, none⟩ = some u) (hu : u.oneCell' = true) (hlen : n ≤ 10000000)
    (h : ∀ v' w', Grew w w' 30 v v' (n + 1) (xs ++ [u]) → K (act.put o.dst v') w') : o.wp Try.prog act w K Q := by
  obtain ⟨i0, hi, hz0, hz1, hz2⟩ := infoB
  obtain ⟨v', w', hr, h2, h3, _, h5⟩ := run_append_own_at (P := Try.prog) w 0 23 o.type 30 i0 (.slice none 0 0) 1 24 Try.underlying23 hi hz0 hz1 hz2 rfl (by decide) v n xs hown ⟨g, 0, none⟩ 1 1 [u] rfl (by
    intro j y hj
    match j, hj with
    | 0, hj =>
      obtain rfl : u = y := by simpa using hj
      rw [Addr.add_mid]; exact hc) (fun y hy => by rw [List.mem_singleton.1 hy]; exact hu) (by unfold maxLen; omega) (by omega) (Nat.zero_le _)
  unfold Oper.wp execOp
  simp only [ho, resolve, invoke, builtin, Sem.run_bind, Sem.run_pure, Result.andThen_ok, List.map_toArray, List.map_cons, List.map_nil, hs, hx, hr]
  exact h v' w' ⟨h2, h3, h5⟩
end Go.Proofs.Ytplppnngmlljnaa

/- The reference's Parse, of 256 bytes. -/
namespace Go.Proofs.Ytplppnngmlljnaa
open Go.RowKit

theorem infoI : ∃ i, Try.prog.info? 3 = some i ∧ i.zero = some (.int .i64 0) ∧ i.size = 1 ∧ i.bytes = 8 := by
  have h : (Try.prog.info? 3).map (fun i => (i.zero, i.size, i.bytes)) = some (some (.int .i64 0), 1, 8) := by kernel_rfl
  cases hq : Try.prog.info? 3 with
  | none => rw [hq] at h; cases h
  | some i =>
    rw [hq] at h
    simp only [Option.map_some, Option.some.injEq, Prod.mk.injEq] at h
    exact ⟨i, rfl, h.1, h.2.1, h.2.2⟩
theorem append_ir1 {w : World} {ops : Array Oper} {rest : List Oper} {o : Oper} {act : Act} {Q : Exit → Act → World → Prop} (hgd : o.guard = none) (s x : Operand)
    (ho : o.op = .call { callee := .builtin .append, args := #[s, x], argTypes := #[24, 24] }) (v : Value) (n : Nat) (xs : List Value) (hs : act.eval s = v) (hown : w.ownsRow 0 3 1 v n xs)
    (g : Nat) (u : Value) (hx : act.eval x = .slice (some ⟨g, 0, none⟩) 1 1) (hc : w.cell? ⟨g, 0, none⟩ = some u) (hu : u.oneCell' = true) (hlen : n ≤ 10000000)
    (h : ∀ v' w', Grew w w' 3 v v' (n + 1) (xs ++ [u]) → wpList Try.prog ops Q rest (act.put o.dst v') w') : wpList Try.prog ops Q (o :: rest) act w := by
  obtain ⟨i0, hi, hz0, hz1, hz2⟩ := infoI
  refine wpList_append_own_at _ hgd s x 24 ho 0 3 i0 (.int .i64 0) 1 8 Try.underlying24 hi hz0 hz1 hz2 rfl (by decide) v n xs hs hown ⟨g, 0, none⟩ 1 1 [u] hx rfl ?_ (fun y hy => by rw [List.mem_singleton.1 hy]; exact hu) (by unfold maxLen; omega) (by omega) (Nat.zero_le _) (fun v' w' h1 h2 _ h4 => h v' w' ⟨h1, h2, h4⟩)
  intro j y hj
  match j, hj with
  | 0, hj =>
    obtain rfl : u = y := by simpa using hj
    rw [Addr.add_mid]; exact hc
/-- A number's bytes, one alone. -/
theorem unfix1 {l : List UInt8} {j : Nat} (h : j < l.length) : M.unfix ((l.drop j).take 1) = (l.getD j 0).toNat := by
  rw [List.drop_eq_getElem_cons h, List.take_succ_cons, List.take_zero, List.getD_eq_getElem?_getD, List.getElem?_eq_getElem h]
  simp [M.unfix]
/-- Sizes as values. -/
abbrev IV (n : Nat) : Value := .int .i64 (n : Int)
set_option maxRecDepth 100000 in
set_option maxHeartbeats 2000000 in
theorem rparse_256 (b o : Nat) (bs : List UInt8) (cap : Nat) (w : World) (hn : bs.length = 256) (hc : 256 ≤ cap) (hA : At w (some ⟨b, o, none⟩) bs) (h0 : ¬ 127 < (bs.getD 0 0).toNat) (h4 : M.pKd bs ≠ 0) : Calls Try.prog 51 #[.slice (some ⟨b, o, none⟩) 256 cap] w (PParse w bs) := by
  obtain ⟨wA, hwA⟩ : ∃ wA, wA = w.alloc (Obj.cells #[Value.int IntKind.i64 0, Value.int IntKind.u8 0, Value.slice none 0 0] 84) := ⟨_, rfl⟩
  have hbw : b < w.heap.size := by
    obtain ⟨b', o', e, hc⟩ := hA 0 bs[0] (List.getElem?_eq_getElem (by omega))
    cases e
    exact World.block_lt_of_cell? w _ hc
  have hA' := hA.adds (show Adds w wA by rw [hwA]; exact (Touch.refl _ w).alloc _)
  obtain ⟨_, _, ec, c0⟩ := hA' 0 (bs.getD 0 0) (by rw [List.getD_eq_getElem?_getD, List.getElem?_eq_getElem (by omega : 0 < bs.length)]; rfl)
  cases ec
  obtain ⟨_, _, ec, c4⟩ := hA' 4 (M.pKd bs) (by rw [M.pKd, List.getD_eq_getElem?_getD, List.getElem?_eq_getElem (by omega : 4 < bs.length)]; rfl)
  cases ec
  rw [hwA] at c0 c4
  rw [Nat.add_zero] at c0
  have hno : ¬ 2147483647 < M.pNo bs := fun c => h0 ((M.no_high hn).1 c)
  have h4' : (((M.pKd bs).toNat : Int) == 0) = false := by
    rw [beq_eq_false_iff_ne]
    intro e
    exact h4 (UInt8.toNat_inj.1 (by simpa using (show (M.pKd bs).toNat = 0 by omega)))
  generalize bs.getD 0 0 = x0 at *
  have h0' : decide ((127 : Int) < (x0.toNat : Int)) = false := by simp; omega
  obtain ⟨no, hno0⟩ : ∃ no, M.pNo bs = no := ⟨_, rfl⟩
  obtain ⟨kd, hkd0⟩ : ∃ kd, M.pKd bs = kd := ⟨_, rfl⟩
  obtain ⟨N, hN0⟩ : ∃ N, M.pN bs = N := ⟨_, rfl⟩
  obtain ⟨T, hT0⟩ : ∃ T, M.pT bs = T := ⟨_, rfl⟩
  have hN255 : N ≤ 255 := by rw [← hN0]; have := (bs.getD 5 0).toNat_lt; unfold M.pN; omega
  have hT16 : T ≤ 65535 := by
    have := (M.fix_unfix 2 ((bs.drop 6).take 2) (by rw [List.length_take, List.length_drop]; omega)).2
    rw [← hT0]; unfold M.pT; omega
  have HD := hid (And.intro hno0 (And.intro hkd0 (And.intro hN0 (And.intro hT0 (And.intro hn (And.intro hno h4))))))
  have HAt := hid hA
  have hno2 : no ≤ 2147483647 := by rw [← hno0]; omega
  rw [hkd0] at c4 h4'
  have hkb : (kd.toNat : Int) % 256 = (kd.toNat : Int) := by have := kd.toNat_lt; omega
  have hkw : IntKind.u8.wrap (kd.toNat : Int) = (kd.toNat : Int) := by show (kd.toNat : Int) % 256 = _; exact hkb
  clear hA' hA hwA hno0 hkd0 hN0 hT0 hno h4 h0
  go_enter Try.func51, Try.ntmps51
  go_upto_region 5 with fail
  obtain ⟨w0, hw0⟩ : ∃ w0, w0 = ((w.alloc (Obj.cells #[Value.int IntKind.i64 0, Value.int IntKind.u8 0, Value.slice none 0 0] 84)).alloc (Obj.cells #[Value.slice (some ⟨b, o, none⟩) 256 cap, Value.int IntKind.i64 0] 89)).alloc (Obj.cells #[Value.int IntKind.i64 0, Value.int IntKind.u8 0, Value.slice none 0 0] 84) := ⟨_, rfl⟩
  have HP0 := hid (show Ps w w0 w.heap.size bs 0 0 (.slice none 0 0) by
    rw [hw0]
    have hA3 : Adds w (((w.alloc (Obj.cells #[Value.int IntKind.i64 0, Value.int IntKind.u8 0, Value.slice none 0 0] 84)).alloc (Obj.cells #[Value.slice (some ⟨b, o, none⟩) 256 cap, Value.int IntKind.i64 0] 89)).alloc (Obj.cells #[Value.int IntKind.i64 0, Value.int IntKind.u8 0, Value.slice none 0 0] 84)) := (((Touch.refl _ w).alloc _).alloc _).alloc _
    refine ⟨⟨⟨some ⟨b, o, none⟩, cap, ?_, ⟨HAt.out.adds hA3, by show bs.length ≤ cap; rw [HD.out.2.2.2.2.1]; exact hc, fun e => (by cases e), fun ad e => by cases e; exact ⟨rfl, by show b < w.heap.size + 1; omega⟩⟩⟩, fun e => absurd rfl e, by show bs.length ≤ 1000000; rw [HD.out.2.2.2.2.1]; decide, by show 0 ≤ 100; decide⟩, ?_, ?_, hA3, rfl⟩
    · rw [HD.out.2.2.2.2.1]
      have q := ((Touch.refl (fun _ => False) _).alloc (Obj.cells #[Value.int IntKind.i64 0, Value.int IntKind.u8 0, Value.slice none 0 0] 84)).at' (heap_alloc_new (w.alloc (Obj.cells #[Value.int IntKind.i64 0, Value.int IntKind.u8 0, Value.slice none 0 0] 84)) (Obj.cells #[Value.slice (some ⟨b, o, none⟩) 256 cap, Value.int IntKind.i64 0] 89)) id
      simpa using q
    · have q := heap_alloc_new ((w.alloc (Obj.cells #[Value.int IntKind.i64 0, Value.int IntKind.u8 0, Value.slice none 0 0] 84)).alloc (Obj.cells #[Value.slice (some ⟨b, o, none⟩) 256 cap, Value.int IntKind.i64 0] 89)) (Obj.cells #[Value.int IntKind.i64 0, Value.int IntKind.u8 0, Value.slice none 0 0] 84)
      simpa using q
    · exact ((((Touch.refl (fun _ => False) _).alloc _).alloc _).at' (heap_alloc_new w _) id))
  rw [← hw0]
  clear hw0 c0 c4
  obtain ⟨B, hB⟩ : ∃ B, B = w.heap.size := ⟨_, rfl⟩
  have HB := hid hB
  rw [← hB] at HP0 ⊢
  rw [← hB] at hbw
  clear hB
  go_upto_region 6 with (go_at_call 53; refine (rfixed_put 4 4 no (by decide) (by rw [HD.out.2.2.2.2.1]; decide) HD.out.1 HP0.out.rd).mono ?_; rintro e w1 ⟨rfl, hr, hT⟩; have P1 := hid (HP0.out.reader hr hT); obtain ⟨⟨c0, c1, c2⟩, f0, f1, f2⟩ := P1.out.cell; clear hr hT)
  have P2 := hid (P1.out.put (no' := (no : Int)) (kd' := 0) (v' := .slice none 0 0) 0 (x := .int .i64 (no : Int)) rfl)
  clear c0 c1 c2 f0 f1 f2 P1
  generalize w1.setCell ⟨B + 2, 0, none⟩ (.int .i64 (no : Int)) = w2 at P2 ⊢
  have l4 : 1 ≤ (bs.drop 4).length := by rw [List.length_drop, HD.out.2.2.2.2.1]; decide
  have l5 : 1 ≤ ((bs.drop 4).drop 1).length := by rw [List.length_drop, List.length_drop, HD.out.2.2.2.2.1]; decide
  have l6 : 2 ≤ (((bs.drop 4).drop 1).drop 1).length := by rw [List.length_drop, List.length_drop, List.length_drop, HD.out.2.2.2.2.1]; decide
  have HLs := hid (And.intro l4 (And.intro l5 l6))
  have HV := hid (show M.unfix ((bs.drop 4).take 1) = kd.toNat ∧ M.unfix (((bs.drop 4).drop 1).take 1) = N ∧ M.unfix ((((bs.drop 4).drop 1).drop 1).take 2) = T by
    refine ⟨by rw [unfix1 (by rw [HD.out.2.2.2.2.1]; decide), ← HD.out.2.1]; rfl, by rw [List.drop_drop, unfix1 (by rw [HD.out.2.2.2.2.1]; decide), ← HD.out.2.2.1]; rfl, by rw [List.drop_drop, List.drop_drop, ← HD.out.2.2.2.1]; rfl⟩)
  clear l4 l5 l6 HP0
  go_upto_region 7 with (go_at_call 53; refine (rfixed_put 1 1 kd.toNat (by decide) HLs.out.1 HV.out.1 P2.out.rd).mono ?_; rintro e w3 ⟨rfl, hr, hT⟩; have P3 := hid (P2.out.reader hr hT); obtain ⟨⟨c0, c1, c2⟩, f0, f1, f2⟩ := P3.out.cell; clear hr hT)
  have P4 := hid (P3.out.put (no' := (no : Int)) (kd' := (kd.toNat : Int)) (v' := .slice none 0 0) 1 (x := .int .u8 (kd.toNat : Int)) rfl)
  clear c0 c1 c2 f0 f1 f2 P3 P2
  generalize w3.setCell ⟨B + 2, 1, none⟩ (.int .u8 (kd.toNat : Int)) = w4 at P4 ⊢
  go_upto_region 9 with (first
    | (go_at_call 53; refine (rfixed_put 2 2 T (by decide) HLs.out.2.2 HV.out.2.2 P5.out.rd).mono ?_; rintro e w6 ⟨rfl, hr, hT⟩; have P6 := hid (P5.out.reader hr hT); clear hr hT)
    | (go_at_call 53; refine (rfixed_put 1 1 N (by decide) HLs.out.2.1 HV.out.2.1 P4.out.rd).mono ?_; rintro e w5 ⟨rfl, hr, hT⟩; have P5 := hid (P4.out.reader hr hT); clear hr hT))
  have P7 := hid (show Ps w w6 B (bs.drop 8) (no : Int) (kd.toNat : Int) (.slice none 0 0) by have q := P6.out; rw [List.drop_drop, List.drop_drop, List.drop_drop] at q; exact q)
  clear P4 P5 P6 HLs HV
  by_cases hbig : 244 < 2 * N + T
  · have HN := hid (show M.readP bs = none from M.read_not HD.out.2.2.2.2.1 (.inr (.inr (by rw [HD.out.2.2.1, HD.out.2.2.2.1]; exact hbig))))
    have h1 : (244 : Int) < 2 * (N : Int) + (T : Int) := by omega
    obtain ⟨⟨r0, r1, r2⟩, s0, s1, s2⟩ := P7.out.res
    go_wp2_with fail
    refine bodyPost_ret (v := .tuple #[.agg #[.int .i64 0, .int .u8 0, .slice none 0 0], .bool false]) (by simp [results, Try.results51, go_sem, r0, r1, r2]) rfl (PParse.no HN.out ?_)
    exact res_adds HB.out P7.out.adds _ _ _
  · have h1 : ¬ (244 : Int) < 2 * (N : Int) + (T : Int) := by omega
    go_wp2_with fail
    clear h1
    have HG := hid (show 2 * M.pN bs + M.pT bs ≤ 244 by rw [HD.out.2.2.1, HD.out.2.2.2.1]; omega)
    go_loopw [8, 9, 10] (fun wv sv iv wr => ∃ (k bn : Nat) (cs : List (List UInt8)), k ≤ N ∧ bn ≤ T ∧ iv = .int .i64 (k : Int) ∧ wv = .int .i64 (bn : Int) ∧ Hid (M.pCut bs k = some (cs, bn) ∧ cs.length = k ∧ wr.ownsRow 0 3 1 sv k (cs.map (fun c => IV c.length)) ∧ (∀ j, sv.ownBlock = some j → B + 2 < j) ∧ Ps w wr B (bs.drop (8 + 2 * k)) (no : Int) (kd.toNat : Int) (.slice none 0 0))) (fun _ _ iv _ => N - (intOf iv).toNat)
    case atStart => exact ⟨0, 0, [], Nat.zero_le _, Nat.zero_le _, rfl, rfl, rfl, rfl, World.ownsRow_nil _ _ _ _, fun _ c => (by cases c), P7.out⟩
    case round =>
      obtain ⟨k, bn, cs, hk, hbn, rfl, rfl, HI⟩ := hrel
      by_cases hlt : k < N
      · obtain ⟨en, hen⟩ : ∃ en, M.unfix ((bs.drop (8 + 2 * k)).take 2) = en := ⟨_, rfl⟩
        have hen2 : M.unfix (((M.pEs bs).drop (2 * k)).take 2) = en := by rw [M.es_take (by rw [HD.out.2.2.1]; exact hlt) (by have := HG.out; omega)]; exact hen
        have l2 : 2 ≤ (bs.drop (8 + 2 * k)).length := by rw [List.length_drop, HD.out.2.2.2.2.1]; omega
        have he16 : en ≤ 65535 := by have := (M.fix_unfix 2 ((bs.drop (8 + 2 * k)).take 2) (by rw [List.length_take]; omega)).2; rw [hen] at this; omega
        have HX := hid (rfixed_put 2 2 en (by decide) l2 hen HI.out.2.2.2.2.rd)
        have HE := hid hen2
        have HT := hid HD.out.2.2.2.1
        clear hen hen2 l2
        by_cases hb1 : en < bn
        · have HN := hid (show M.readP bs = none from M.read_none HD.out.2.2.2.2.1 (by
            have q := M.cutK_bad HI.out.1 (.inl (by rw [HE.out]; exact hb1))
            exact M.cutK_none' q (by rw [HD.out.2.2.1]; omega)))
          have hb1' : (en : Int) < (bn : Int) := by omega
          go_upto_region 18 with (go_at_call 53; refine HX.out.mono ?_; rintro e w3 ⟨rfl, hr, hT⟩; have P3 := hid (HI.out.2.2.2.2.reader hr hT); clear hr hT)
          obtain ⟨⟨r0, r1, r2⟩, s0, s1, s2⟩ := P3.out.res
          go_wp2_with fail
          refine bodyPost_ret (v := .tuple #[.agg #[.int .i64 0, .int .u8 0, .slice none 0 0], .bool false]) (by simp [results, Try.results51, go_sem, r0, r1, r2]) rfl (PParse.no HN.out ?_)
          exact res_adds HB.out P3.out.adds _ _ _
        · have hb1' : decide ((en : Int) < (bn : Int)) = false := by simp; omega
          by_cases hb2 : T < en
          · have HN := hid (show M.readP bs = none from M.read_none HD.out.2.2.2.2.1 (by
              have q := M.cutK_bad HI.out.1 (.inr (by rw [HE.out, HT.out]; exact hb2))
              exact M.cutK_none' q (by rw [HD.out.2.2.1]; omega)))
            have hb2' : decide ((T : Int) < (en : Int)) = true := by simp; omega
            go_upto_region 18 with (go_at_call 53; refine HX.out.mono ?_; rintro e w3 ⟨rfl, hr, hT⟩; have P3 := hid (HI.out.2.2.2.2.reader hr hT); clear hr hT)
            obtain ⟨⟨r0, r1, r2⟩, s0, s1, s2⟩ := P3.out.res
            go_wp2_with fail
            refine bodyPost_ret (v := .tuple #[.agg #[.int .i64 0, .int .u8 0, .slice none 0 0], .bool false]) (by simp [results, Try.results51, go_sem, r0, r1, r2]) rfl (PParse.no HN.out ?_)
            exact res_adds HB.out P3.out.adds _ _ _
          · have hb2' : decide ((T : Int) < (en : Int)) = false := by simp; omega
            obtain ⟨d, hd⟩ : ∃ d, d = en - bn := ⟨_, rfl⟩
            have hsub : (en : Int) - (bn : Int) = (d : Int) := by omega
            have hcl : (((M.pAll bs).drop bn).take (en - bn)).length = d := by
              unfold M.pAll
              rw [List.length_take, List.length_drop, List.length_drop, List.length_take, List.length_drop, HD.out.2.2.2.2.1, HD.out.2.2.1]
              omega
            have HK := hid (show M.pCut bs (k + 1) = some (cs ++ [((M.pAll bs).drop bn).take (en - bn)], en) by
              have q := M.cutK_more HI.out.1 (by rw [HE.out, HT.out]; show ¬ (en < bn ∨ T < en); omega)
              rw [HE.out] at q
              exact q)
            have HCl := hid hcl
            clear hd hcl
            go_wp2_with (first
              | (go_at_call 53; refine HX.out.mono ?_; rintro e w3 ⟨rfl, hr, hT⟩; have P3 := hid (HI.out.2.2.2.2.reader hr hT)
                 have HA3 := hid (fun o => show (w3.alloc o).ownsRow 0 3 1 u9 k (cs.map (fun c => IV c.length)) from row_touch (row_touch HI.out.2.2.1 hT (fun j hj c => by have := HI.out.2.2.2.1 j hj; simp only [Own1, Value.pointer.injEq, Option.some.injEq, Addr.mk.injEq] at c; omega)) ((Touch.refl _ w3).alloc o) (fun _ _ => id))
                 clear hr hT)
              | (at_builtin; refine append_ir1 rfl _ _ rfl u9 k (cs.map (fun c => IV c.length)) rfl (HA3.out _) w3.heap.size (.int .i64 (d : Int)) rfl (cellOf (heap_alloc_new w3 _) 0) rfl (by omega) ?_; intro v5 w5 G5; have HG5 := hid G5; clear G5))
            go_roundw
            case rel =>
              have hw3 : B + 2 < w3.heap.size := lt_of_heap P3.out.pg
              refine ⟨k + 1, en, cs ++ [((M.pAll bs).drop bn).take (en - bn)], by omega, by omega, by go_num, by first | rfl | go_num, HK.out, by rw [List.length_append, HI.out.2.1]; rfl, ?_, ?_, ?_⟩
              · rw [List.map_append]
                show w5.ownsRow 0 3 1 v5 (k + 1) (cs.map (fun c => IV c.length) ++ [.int .i64 (((((M.pAll bs).drop bn).take (en - bn)).length : Nat) : Int)])
                rw [HCl.out]
                exact HG5.out.1
              · intro j hj
                rcases HG5.out.2.2 with c | c
                · exact HI.out.2.2.2.1 j (by rw [← c]; exact hj)
                · rw [c] at hj; cases hj; simp; omega
              · have q := (P3.out.add ((Touch.refl _ w3).alloc _)).up HG5.out.touch (fun j c => HI.out.2.2.2.1 j c)
                rw [List.drop_drop, show 8 + 2 * k + 2 = 8 + 2 * (k + 1) by omega] at q
                exact q
            case measure => simp [intOf]; omega
      · obtain rfl : N = k := by omega
        by_cases hbt : bn = T
        · subst hbt
          have HQ := hid (M.cut_cuts HD.out.2.2.2.2.1 HG.out (k := N) (by rw [HD.out.2.2.1]; exact Nat.le_refl _) HI.out.1)
          have hbt' : ((bn : Int) != (bn : Int)) = false := by simp
          have HL0 := hid (show L2 w wr B ((bs.drop (8 + 2 * N)).drop (cs.take 0).flatten.length) (no : Int) (kd.toNat : Int) (.slice none 0 0) [] u9 N (cs.map (fun c => IV c.length)) from ⟨HI.out.2.2.2.2, Fresh.nil _ _, HI.out.2.2.1, HI.out.2.2.2.1, fun x hx => by cases hx⟩)
          have HP1 := hid HI.out.1
          clear HI
          go_wp2_with fail
          clear hbt'
          go_loopw [12] (fun iv wz => ∃ (q : Nat) (v : Value) (ts : List Part), q ≤ N ∧ iv = .int .i64 (q : Int) ∧ Hid (ts.map (·.bs) = cs.take q ∧ L2 w wz B ((bs.drop (8 + 2 * N)).drop (cs.take q).flatten.length) (no : Int) (kd.toNat : Int) v ts u9 N (cs.map (fun c => IV c.length)))) (fun iv _ => N - (intOf iv).toNat)
          case atStart => exact ⟨0, .slice none 0 0, [], Nat.zero_le _, rfl, rfl, HL0.out⟩
          case round =>
            obtain ⟨q, v, ts, hq, rfl, HJ⟩ := hrel
            by_cases hqn : q < N
            · obtain ⟨c, hc⟩ : ∃ c, cs[q]? = some c := ⟨cs[q]'(by rw [HQ.out.n]; exact hqn), List.getElem?_eq_getElem _⟩
              obtain ⟨l, hl⟩ : ∃ l, l = (bs.drop (8 + 2 * N)).drop (cs.take q).flatten.length := ⟨_, rfl⟩
              obtain ⟨sz, hsz⟩ : ∃ sz, sz = c.length := ⟨_, rfl⟩
              have hfl : cs.flatten = (bs.drop (8 + 2 * N)).take cs.flatten.length := by
                have q1 := HQ.out.all
                have q2 := M.all_take HG.out
                rw [HD.out.2.2.1, HD.out.2.2.2.1] at q2
                rw [HQ.out.at_, ← q2]
                exact q1
              have hlc : l.take sz = c := by rw [hl, hsz]; exact M.cell_read hfl hc
              have hnx : l.drop sz = (bs.drop (8 + 2 * N)).drop (cs.take (q + 1)).flatten.length := by rw [hl, List.drop_drop, M.flat_nx hc, List.length_append, hsz]
              obtain ⟨sg, sc, hsv, hcell⟩ := own_is HJ.out.2.sz (q := q) (u := IV sz) (by rw [List.getElem?_map, hc, hsz]; rfl)
              have HCl := hid (show (l.take sz).length = sz by rw [hlc, hsz])
              have HSz := hid (show sz ≤ l.length by have h1 := HCl.out; rw [List.length_take] at h1; omega)
              have HNx := hid (And.intro (show cs.take q ++ [l.take sz] = cs.take (q + 1) by rw [List.take_add_one, hc, hlc]; rfl) hnx)
              have hszb : sz ≤ 1000 := by
                have h1 : l.length ≤ 256 := by rw [hl, List.length_drop, List.length_drop, HD.out.2.2.2.2.1]; omega
                have h2 := HSz.out
                omega
              have HTs := hid (And.intro HJ.out.1 (show ts.length ≤ 255 by have h1 := congrArg List.length HJ.out.1; rw [List.length_map, List.length_take] at h1; omega))
              rw [← hl, hsv] at HJ
              have HL := hid HJ.out.2
              have HSv := hid hsv
              have hsg : B + 2 < sg := HL.out.hi sg rfl
              have HS0 := hid (show S26 B (no : Int) (kd.toNat : Int) v sg q (sz : Int) wr.drew from HL.out.s hcell)
              have HL := hid (HL.out.add (Touch.refl _ wr).drew)
              have hqn' : (q : Int) < (N : Int) := by omega
              clear hl hsz hfl hlc hnx hc hcell HJ
              subst hsv
              go_upto_region 26 with fail
              refine Pe_begin (S := S26 B (no : Int) (kd.toNat : Int) v sg q (sz : Int)) (X := 13) (by kernel_rfl) ?_
              have hS : (S26 B (no : Int) (kd.toNat : Int) v sg q (sz : Int)) wr.drew := HS0.out
              generalize wr.drew = wD at HL HS0 hS ⊢
              refine Pe_put (i := 0) 86 (v := .pointer (some ⟨B + 2, 2, none⟩)) rfl rfl (by kernel_rfl) (by kernel_rfl) (by kernel_rfl) (by kernel_rfl) (fun _ _ _ h => h) (Or.inl ⟨by rfl, fun w' hw' => ?_⟩) hS ?_
              · go_simp
              simp only [Act.put, List.setIfInBounds_toArray, List.set_cons_zero, List.set_cons_succ]
              refine Pe_put (i := 1) 87 (v := v) rfl rfl (by kernel_rfl) (by kernel_rfl) (by kernel_rfl) (by kernel_rfl) (fun _ _ _ h => h) (Or.inl ⟨by rfl, fun w' hw' => ?_⟩) hS ?_
              · have c : w'.cell? ⟨B + 2, 2, none⟩ = some v := by (have q := cellOf hw'.1 2; simpa using q)
                go_simp
              simp only [Act.put, List.setIfInBounds_toArray, List.set_cons_zero, List.set_cons_succ]
              refine Pe_put (i := 3) 89 (v := Ptr (B + 1)) rfl rfl (by kernel_rfl) (by kernel_rfl) (by kernel_rfl) (by kernel_rfl) (fun _ _ _ h => h) (Or.inl ⟨by rfl, fun w' hw' => ?_⟩) hS ?_
              · go_simp
              simp only [Act.put, List.setIfInBounds_toArray, List.set_cons_zero, List.set_cons_succ]
              refine Pe_put (i := 4) 90 (v := .slice (some ⟨sg, 0, none⟩) N sc) rfl rfl (by kernel_rfl) (by kernel_rfl) (by kernel_rfl) (by kernel_rfl) (fun _ _ _ h => h) (Or.inl ⟨by rfl, fun w' hw' => ?_⟩) hS ?_
              · go_simp
              simp only [Act.put, List.setIfInBounds_toArray, List.set_cons_zero, List.set_cons_succ]
              refine Pe_put (i := 5) 91 (v := .int .i64 (q : Int)) rfl rfl (by kernel_rfl) (by kernel_rfl) (by kernel_rfl) (by kernel_rfl) (fun _ _ _ h => h) (Or.inl ⟨by rfl, fun w' hw' => ?_⟩) hS ?_
              · go_simp
              simp only [Act.put, List.setIfInBounds_toArray, List.set_cons_zero, List.set_cons_succ]
              refine Pe_put (i := 6) 92 (v := .pointer (some ⟨sg, q, none⟩)) rfl rfl (by kernel_rfl) (by kernel_rfl) (by kernel_rfl) (by kernel_rfl) (fun _ _ _ h => h) (Or.inl ⟨by rfl, fun w' hw' => ?_⟩) hS ?_
              · go_simp
              simp only [Act.put, List.setIfInBounds_toArray, List.set_cons_zero, List.set_cons_succ]
              refine Pe_put (i := 7) 93 (v := .int .i64 (sz : Int)) rfl rfl (by kernel_rfl) (by kernel_rfl) (by kernel_rfl) (by kernel_rfl) (fun _ _ _ h => h) (Or.inl ⟨by rfl, fun w' hw' => ?_⟩) hS ?_
              · have c := hw'.2; go_simp
              simp only [Act.put, List.setIfInBounds_toArray, List.set_cons_zero, List.set_cons_succ]
              refine Pe_all (rs := [2, 8]) (by kernel_rfl) (by simp) (fun j hj => ?_)
              rcases List.mem_cons.1 hj with rfl | hj
              · refine EO_value (i := 2) 88 (v := .slice (some ⟨wD.heap.size, 0, none⟩) 0 0) (w' := wD.alloc (.cells #[] 5)) rfl rfl (by rfl) (by go_simp) (HS0.out.touch ((Touch.refl (fun _ => False) wD).alloc _) id id) ?_
                simp only [Act.put, List.setIfInBounds_toArray, List.set_cons_zero, List.set_cons_succ]
                refine Pe_call (i := 8) 94 80 #[.pointer (some ⟨B + 1, 0, none⟩), .int .i64 (sz : Int)] (by kernel_rfl) rfl rfl (by rfl) (by go_simp) (rtake_put sz (HL.out.add ((Touch.refl _ wD).alloc _)).ps.rd HSz.out) ?_
                rintro e wX ⟨xa, xc, rfl, H3⟩
                have MX := hid (M2.a HL.out.size H3.out)
                clear H3
                refine ⟨_, rfl, fun _ => MX.out.s HS0.out hsg, ?_⟩
                simp only [Act.put, List.setIfInBounds_toArray, List.set_cons_zero, List.set_cons_succ]
                clear hS
                refine Pe_do (i := 9) (some 95) (by kernel_rfl) rfl rfl rfl (fun K hK => ?_)
                refine wp_append_m (.tmp 88) (.tmp 94) rfl (wD.heap.size) (.slice (some ⟨wD.heap.size, 0, none⟩) 0 0) 0 [] rfl MX.out.row xa (l.take sz) sz xc HCl.out rfl MX.out.non MX.out.at_ (by omega) MX.out.lt ?_
                intro v1 wY h1 h2
                rw [Nat.zero_add] at h1
                obtain ⟨ya, yc, rfl, epv, hN⟩ := MX.out.next HL.out.size HCl.out h1 h2
                have NY := hid hN
                have EP := hid epv
                refine hK (.slice ya sz yc) _ (fun _ => NY.out.s HS0.out hsg) ?_
                clear hK K h1 h2 hN epv MX
                simp only [Act.put, List.setIfInBounds_toArray, List.set_cons_zero, List.set_cons_succ]
                refine Pe_do (i := 10) (some 96) (by kernel_rfl) rfl rfl rfl (fun K hK => ?_)
                go_simp
                refine hK (.slice (some ⟨wY.heap.size, 0, none⟩) 1 1) _ (fun _ => (NY.out.s HS0.out hsg).touch ((Touch.refl (fun _ => False) wY).alloc _) id id) ?_
                clear hK K
                simp only [Act.put, List.setIfInBounds_toArray, List.set_cons_zero, List.set_cons_succ]
                refine Pe_do (i := 11) (some 97) (by kernel_rfl) rfl rfl rfl (fun K hK => ?_)
                refine wp_append_b1 (.tmp 87) (.tmp 96) rfl v ts.length (ts.map PV) rfl (((HL.out.take NY.out.rd NY.out.T).add ((Touch.refl _ wY).alloc _)).fr.rows) wY.heap.size (.slice ya sz yc) rfl (cellOf (heap_alloc_new wY _) 0) rfl (by have := HTs.out; omega) ?_
                intro v5 w5 G5
                obtain ⟨fa, fc, e5, _⟩ := own_cq G5.1
                subst e5
                have HZ5 := hid (HL.out.s5 NY.out ((Touch.refl _ wY).alloc _) G5 HS0.out)
                have HL5 := hid (HL.out.more NY.out ((Touch.refl _ wY).alloc _) (show Grew _ w5 30 v (.slice fa (ts.length + 1) fc) (ts.length + 1) (ts.map PV ++ [PV ⟨ya, l.take sz, yc⟩]) by rw [EP.out]; exact G5))
                clear G5
                refine hK (.slice fa (ts.length + 1) fc) _ (fun _ => HZ5.out) ?_
                clear hK K
                simp only [Act.put, List.setIfInBounds_toArray, List.set_cons_zero, List.set_cons_succ]
                refine Pe_put (i := 12) 98 (v := .pointer (some ⟨B + 2, 2, none⟩)) rfl rfl (by kernel_rfl) (by kernel_rfl) (by kernel_rfl) (by kernel_rfl) (fun _ _ _ h => h) (Or.inl ⟨by rfl, fun w' hw' => ?_⟩) HZ5.out ?_
                · go_simp
                simp only [Act.put, List.setIfInBounds_toArray, List.set_cons_zero, List.set_cons_succ]
                refine Pe_do (i := 13) none (by kernel_rfl) rfl rfl rfl (fun K hK => ?_)
                have c2 : w5.cell? ⟨B + 2, 2, none⟩ = some v := by (have q := cellOf HZ5.out.1 2; simpa using q)
                have f2 : w5.frozen? ⟨B + 2, 2, none⟩ = false := frozen_of_row w5 _ 2 _ 84 HZ5.out.1
                go_simp
                refine hK undef _ (fun h => absurd rfl h) ?_
                clear hK K c2 f2
                simp only [Act.put]
                refine Pe_done (by kernel_rfl) ?_ _
                clear HZ5 NY EP
                generalize w5.setCell ⟨B + 2, 2, none⟩ (.slice fa (ts.length + 1) fc) = w6 at HL5 ⊢
                go_wp2_with fail
                go_roundw
                case rel => exact ⟨q + 1, .slice fa (ts.length + 1) fc, ts ++ [⟨ya, l.take sz, yc⟩], by omega, by go_num, by rw [List.map_append, HTs.out.1, ← HNx.out.1]; rfl, by have q := HL5.out; rw [HNx.out.2] at q; exact q⟩
                case measure => simp [intOf]; omega
              · obtain rfl := List.mem_singleton.1 hj
                refine EO_call (i := 8) 94 80 #[.pointer (some ⟨B + 1, 0, none⟩), .int .i64 (sz : Int)] rfl rfl (by rfl) (by go_simp) (rtake_put sz HL.out.ps.rd HSz.out) ?_
                rintro e wV ⟨xa, xc, rfl, H3⟩
                have MX := hid (M2.b H3.out)
                have HSV := hid (HS0.out.touch H3.out.2.2.2 (fun c => by have := own1_eq c; omega) (fun c => by have := own1_eq c; omega))
                clear H3
                refine ⟨_, rfl, HSV.out, ?_⟩
                simp only [Act.put, List.setIfInBounds_toArray, List.set_cons_zero, List.set_cons_succ]
                refine Pe_do (i := 2) (some 88) (by kernel_rfl) rfl rfl rfl (fun K hK => ?_)
                go_simp
                refine hK (.slice (some ⟨wV.heap.size, 0, none⟩) 0 0) _ (fun _ => HSV.out.touch ((Touch.refl (fun _ => False) wV).alloc _) id id) ?_
                clear hK K
                simp only [Act.put, List.setIfInBounds_toArray, List.set_cons_zero, List.set_cons_succ]
                clear hS
                refine Pe_do (i := 9) (some 95) (by kernel_rfl) rfl rfl rfl (fun K hK => ?_)
                refine wp_append_m (.tmp 88) (.tmp 94) rfl (wV.heap.size) (.slice (some ⟨wV.heap.size, 0, none⟩) 0 0) 0 [] rfl MX.out.row xa (l.take sz) sz xc HCl.out rfl MX.out.non MX.out.at_ (by omega) MX.out.lt ?_
                intro v1 wY h1 h2
                rw [Nat.zero_add] at h1
                obtain ⟨ya, yc, rfl, epv, hN⟩ := MX.out.next HL.out.size HCl.out h1 h2
                have NY := hid hN
                have EP := hid epv
                refine hK (.slice ya sz yc) _ (fun _ => NY.out.s HS0.out hsg) ?_
                clear hK K h1 h2 hN epv MX
                simp only [Act.put, List.setIfInBounds_toArray, List.set_cons_zero, List.set_cons_succ]
                refine Pe_do (i := 10) (some 96) (by kernel_rfl) rfl rfl rfl (fun K hK => ?_)
                go_simp
                refine hK (.slice (some ⟨wY.heap.size, 0, none⟩) 1 1) _ (fun _ => (NY.out.s HS0.out hsg).touch ((Touch.refl (fun _ => False) wY).alloc _) id id) ?_
                clear hK K
                simp only [Act.put, List.setIfInBounds_toArray, List.set_cons_zero, List.set_cons_succ]
                refine Pe_do (i := 11) (some 97) (by kernel_rfl) rfl rfl rfl (fun K hK => ?_)
                refine wp_append_b1 (.tmp 87) (.tmp 96) rfl v ts.length (ts.map PV) rfl (((HL.out.take NY.out.rd NY.out.T).add ((Touch.refl _ wY).alloc _)).fr.rows) wY.heap.size (.slice ya sz yc) rfl (cellOf (heap_alloc_new wY _) 0) rfl (by have := HTs.out; omega) ?_
                intro v5 w5 G5
                obtain ⟨fa, fc, e5, _⟩ := own_cq G5.1
                subst e5
                have HZ5 := hid (HL.out.s5 NY.out ((Touch.refl _ wY).alloc _) G5 HS0.out)
                have HL5 := hid (HL.out.more NY.out ((Touch.refl _ wY).alloc _) (show Grew _ w5 30 v (.slice fa (ts.length + 1) fc) (ts.length + 1) (ts.map PV ++ [PV ⟨ya, l.take sz, yc⟩]) by rw [EP.out]; exact G5))
                clear G5
                refine hK (.slice fa (ts.length + 1) fc) _ (fun _ => HZ5.out) ?_
                clear hK K
                simp only [Act.put, List.setIfInBounds_toArray, List.set_cons_zero, List.set_cons_succ]
                refine Pe_put (i := 12) 98 (v := .pointer (some ⟨B + 2, 2, none⟩)) rfl rfl (by kernel_rfl) (by kernel_rfl) (by kernel_rfl) (by kernel_rfl) (fun _ _ _ h => h) (Or.inl ⟨by rfl, fun w' hw' => ?_⟩) HZ5.out ?_
                · go_simp
                simp only [Act.put, List.setIfInBounds_toArray, List.set_cons_zero, List.set_cons_succ]
                refine Pe_do (i := 13) none (by kernel_rfl) rfl rfl rfl (fun K hK => ?_)
                have c2 : w5.cell? ⟨B + 2, 2, none⟩ = some v := by (have q := cellOf HZ5.out.1 2; simpa using q)
                have f2 : w5.frozen? ⟨B + 2, 2, none⟩ = false := frozen_of_row w5 _ 2 _ 84 HZ5.out.1
                go_simp
                refine hK undef _ (fun h => absurd rfl h) ?_
                clear hK K c2 f2
                simp only [Act.put]
                refine Pe_done (by kernel_rfl) ?_ _
                clear HZ5 NY EP
                generalize w5.setCell ⟨B + 2, 2, none⟩ (.slice fa (ts.length + 1) fc) = w6 at HL5 ⊢
                go_wp2_with fail
                go_roundw
                case rel => exact ⟨q + 1, .slice fa (ts.length + 1) fc, ts ++ [⟨ya, l.take sz, yc⟩], by omega, by go_num, by rw [List.map_append, HTs.out.1, ← HNx.out.1]; rfl, by have q := HL5.out; rw [HNx.out.2] at q; exact q⟩
                case measure => simp [intOf]; omega
            · obtain rfl : N = q := by omega
              obtain ⟨va, vc, hva, hvc, hvn, hvq⟩ := own_cq HJ.out.2.fr.rows
              have hts : ts.map (·.bs) = cs := by rw [HJ.out.1, List.take_of_length_le (by rw [HQ.out.n]; exact Nat.le_refl _)]
              have htl : ts.length = N := by rw [← List.length_map (f := (·.bs)), hts, HQ.out.n]
              rw [htl] at hva hvc
              subst hva
              have HRL := hid (M.read_last HD.out.2.2.2.2.1 HD.out.2.2.2.2.2.1 HD.out.2.2.2.2.2.2 HG.out (cs := cs) (by rw [HD.out.2.2.1, HD.out.2.2.2.1]; exact HP1.out))
              rw [HD.out.1, HD.out.2.1] at HRL
              have HGQ := hid (show GQ wr (fun k => B + 3 ≤ k) ⟨va, vc, ts⟩ from ⟨hvq.mono (fun k _ c => HJ.out.2.fr.own k c), hvn, fun x hx => (HJ.out.2.fr.data x hx).mono (fun _ _ c => c.1)⟩)
              have HPs := hid HJ.out.2.ps
              have HRm := hid HJ.out.2.rm
              have HT2 := hid (And.intro (show M.taken (ts.map (·.bs)) ≤ 244 by rw [hts]; exact HRL.out.1.room) htl)
              have HTc := hid (And.intro hts hvc)
              obtain ⟨x, hx⟩ : ∃ x, M.pfirst ⟨no, kd, cs⟩ = x := ⟨_, rfl⟩
              obtain ⟨y, hy⟩ : ∃ y, bs.take 252 = y := ⟨_, rfl⟩
              rw [hx, hy] at HRL
              have HXY := hid (And.intro (show M.pfirst ⟨no, kd, ts.map (·.bs)⟩ = x by rw [hts]; exact hx) hy)
              have HR1 := hid (fun (w' : World) => show (Instr.sliceAt 30 (.slice (some ⟨b, o, none⟩) 256 cap) none (some (.int .i64 252)) none).run Try.prog w' = .ok (.slice (some ⟨b, o, none⟩) 252 cap) w' from run_pre _ 256 cap 252 (by omega) w')
              have HR2 := hid (fun (w' : World) (hw : Adds wr w') => show (convert 30 9 (.slice (some ⟨b, o, none⟩) 252 cap)).run Try.prog w' = .ok (.string ⟨y.toArray⟩) w' by
                have q := conv_at w' (some ⟨b, o, none⟩) (bs.take 252) cap ((HAt.out.pre 252).adds (HPs.out.adds.trans hw))
                rw [List.length_take, HD.out.2.2.2.2.1, HXY.out.2] at q
                exact q)
              clear HJ hvn hvq hts htl hvc hx hy HQ HL0 HP1
              by_cases he : x = y
              · have hss : (x == y) = true := by rw [he]; simp
                have HRD := hid (show M.readP bs = some ⟨no, kd, cs⟩ by rw [HRL.out.2, if_pos he])
                clear he
                go_upto_region 27 with fail
                refine H_begin (S := fun (w' : World) => Adds wr w') (by kernel_rfl) ?_
                have hS : (fun (w' : World) => Adds wr w') wr.drew := (Touch.refl _ wr).drew
                refine H_put (i := 0) 99 (v := .agg #[.int .i64 (no : Int), .int .u8 (kd.toNat : Int), .slice va N vc]) rfl rfl (by kernel_rfl) (by kernel_rfl) (by kernel_rfl) (fun _ _ _ h => h) (Or.inl ⟨by rfl, fun w' hw' => ?_⟩) hS ?_
                · obtain ⟨⟨c0, c1, c2⟩, _⟩ := (HPs.out.add hw').cell; go_simp
                simp only [Act.put, List.setIfInBounds_toArray, List.set_cons_zero, List.set_cons_succ]
                refine H_put (i := 4) 103 (v := .slice (some ⟨b, o, none⟩) 256 cap) rfl rfl (by kernel_rfl) (by kernel_rfl) (by kernel_rfl) (fun _ _ _ h => h) (Or.inl ⟨by rfl, fun w' hw' => ?_⟩) hS ?_
                · go_simp
                simp only [Act.put, List.setIfInBounds_toArray, List.set_cons_zero, List.set_cons_succ]
                refine H_put (i := 5) 104 (v := .slice (some ⟨b, o, none⟩) 252 cap) rfl rfl (by kernel_rfl) (by kernel_rfl) (by kernel_rfl) (fun _ _ _ h => h) (Or.inl ⟨by rfl, fun w' hw' => ?_⟩) hS ?_
                · have q1 := HR1.out w'; go_simp
                simp only [Act.put, List.setIfInBounds_toArray, List.set_cons_zero, List.set_cons_succ]
                refine H_put (i := 6) 105 (v := .string ⟨y.toArray⟩) rfl rfl (by kernel_rfl) (by kernel_rfl) (by kernel_rfl) (fun _ _ _ h => h) (Or.inl ⟨by rfl, fun w' hw' => ?_⟩) hS ?_
                · have q1 := HR2.out w' hw'; go_simp
                simp only [Act.put, List.setIfInBounds_toArray, List.set_cons_zero, List.set_cons_succ]
                refine H_call (i := 1) 100 66 #[.agg #[.int .i64 (no : Int), .int .u8 (kd.toNat : Int), .slice va N vc]] (by kernel_rfl) rfl rfl (by rfl) (by go_simp) (rbytes_any no kd va ts N vc HT2.out.2 wr.drew (HGQ.out.adds (Touch.refl _ wr).drew) (by omega) HT2.out.1) ?_
                rintro e wC ⟨ra, rc, rfl, H3⟩
                obtain ⟨_, _, e3, hrc, _, hrq⟩ := own_cq H3.out.1
                cases e3
                have HRA := hid (show At wC ra (M.pbytes ⟨no, kd, ts.map (·.bs)⟩) from hrq.at)
                have A3 := hid (show Adds wr wC from Touch.trans ((Touch.refl _ wr).drew) H3.out.2)
                clear hrq H3
                have HR3 := hid (fun (w' : World) => show (Instr.sliceAt 30 (.slice ra 256 rc) none (some (.int .i64 252)) none).run Try.prog w' = .ok (.slice ra 252 rc) w' from run_pre ra 256 rc 252 (by omega) w')
                have HR4 := hid (fun (w' : World) (hw : Adds wC w') => show (convert 30 9 (.slice ra 252 rc)).run Try.prog w' = .ok (.string ⟨x.toArray⟩) w' by
                  have q := conv_at w' ra ((M.pbytes ⟨no, kd, ts.map (·.bs)⟩).take 252) rc ((HRA.out.pre 252).adds hw)
                  rw [M.take_pbytes HT2.out.1, M.len_pfirst HT2.out.1, HXY.out.1] at q
                  exact q)
                refine ⟨_, fun (w' : World) => Adds wC w', rfl, Touch.refl _ _, fun w' h => A3.out.trans h, ?_⟩
                clear hS
                have hS : (fun (w' : World) => Adds wC w') wC := Touch.refl _ _
                simp only [Act.put, List.setIfInBounds_toArray, List.set_cons_zero, List.set_cons_succ]
                refine H_put (i := 2) 101 (v := .slice ra 252 rc) rfl rfl (by kernel_rfl) (by kernel_rfl) (by kernel_rfl) (fun _ _ _ h => h) (Or.inl ⟨by rfl, fun w' hw' => ?_⟩) hS ?_
                · have q1 := HR3.out w'; go_simp
                simp only [Act.put, List.setIfInBounds_toArray, List.set_cons_zero, List.set_cons_succ]
                refine H_put (i := 3) 102 (v := .string ⟨x.toArray⟩) rfl rfl (by kernel_rfl) (by kernel_rfl) (by kernel_rfl) (fun _ _ _ h => h) (Or.inl ⟨by rfl, fun w' hw' => ?_⟩) hS ?_
                · have q1 := HR4.out w' hw'; go_simp
                simp only [Act.put, List.setIfInBounds_toArray, List.set_cons_zero, List.set_cons_succ]
                refine H_put (i := 7) 106 (v := .bool false) rfl rfl (by kernel_rfl) (by kernel_rfl) (by kernel_rfl) (fun _ _ _ h => h) (Or.inl ⟨by rfl, fun w' hw' => ?_⟩) hS ?_
                · go_simp
                simp only [Act.put, List.setIfInBounds_toArray, List.set_cons_zero, List.set_cons_succ]
                refine wpAnyH_done (by kernel_rfl) ?_ _
                have P9 := hid (HPs.out.add A3.out)
                have G9 := hid (HGQ.out.adds A3.out)
                obtain ⟨⟨c0, c1, c2⟩, f0, f1, f2⟩ := P9.out.cell
                obtain ⟨⟨r0, r1, r2⟩, s0, s1, s2⟩ := P9.out.res
                go_wp2_with fail
                refine bodyPost_ret (v := .tuple #[.agg #[.int .i64 (no : Int), .int .u8 (kd.toNat : Int), .slice va N vc], .bool true]) (by simp [results, Try.results51, go_sem, r0, r1, r2]) rfl ?_
                obtain ⟨e1, e2, e3, _⟩ := M.some_all HRD.out
                refine ⟨va, vc, ts, by rw [e1, e2, HRD.out, HT2.out.2]; rfl, by rw [e3]; exact HTc.out.1, ?_, ?_, by rw [HT2.out.2]; exact HTc.out.2, fun x hx => (HRm.out x hx).mono (by have q := A3.out.size; simpa using q)⟩
                · exact (res_gq G9.out _ _ _).mono (fun k _ hk => by have := HB.out; omega)
                · exact res_adds HB.out P9.out.adds _ _ _
              · have hss : (x == y) = false := by simpa using he
                have HN := hid (show M.readP bs = none by rw [HRL.out.2, if_neg he])
                clear he
                go_upto_region 27 with fail
                refine H_begin (S := fun (w' : World) => Adds wr w') (by kernel_rfl) ?_
                have hS : (fun (w' : World) => Adds wr w') wr.drew := (Touch.refl _ wr).drew
                refine H_put (i := 0) 99 (v := .agg #[.int .i64 (no : Int), .int .u8 (kd.toNat : Int), .slice va N vc]) rfl rfl (by kernel_rfl) (by kernel_rfl) (by kernel_rfl) (fun _ _ _ h => h) (Or.inl ⟨by rfl, fun w' hw' => ?_⟩) hS ?_
                · obtain ⟨⟨c0, c1, c2⟩, _⟩ := (HPs.out.add hw').cell; go_simp
                simp only [Act.put, List.setIfInBounds_toArray, List.set_cons_zero, List.set_cons_succ]
                refine H_put (i := 4) 103 (v := .slice (some ⟨b, o, none⟩) 256 cap) rfl rfl (by kernel_rfl) (by kernel_rfl) (by kernel_rfl) (fun _ _ _ h => h) (Or.inl ⟨by rfl, fun w' hw' => ?_⟩) hS ?_
                · go_simp
                simp only [Act.put, List.setIfInBounds_toArray, List.set_cons_zero, List.set_cons_succ]
                refine H_put (i := 5) 104 (v := .slice (some ⟨b, o, none⟩) 252 cap) rfl rfl (by kernel_rfl) (by kernel_rfl) (by kernel_rfl) (fun _ _ _ h => h) (Or.inl ⟨by rfl, fun w' hw' => ?_⟩) hS ?_
                · have q1 := HR1.out w'; go_simp
                simp only [Act.put, List.setIfInBounds_toArray, List.set_cons_zero, List.set_cons_succ]
                refine H_put (i := 6) 105 (v := .string ⟨y.toArray⟩) rfl rfl (by kernel_rfl) (by kernel_rfl) (by kernel_rfl) (fun _ _ _ h => h) (Or.inl ⟨by rfl, fun w' hw' => ?_⟩) hS ?_
                · have q1 := HR2.out w' hw'; go_simp
                simp only [Act.put, List.setIfInBounds_toArray, List.set_cons_zero, List.set_cons_succ]
                refine H_call (i := 1) 100 66 #[.agg #[.int .i64 (no : Int), .int .u8 (kd.toNat : Int), .slice va N vc]] (by kernel_rfl) rfl rfl (by rfl) (by go_simp) (rbytes_any no kd va ts N vc HT2.out.2 wr.drew (HGQ.out.adds (Touch.refl _ wr).drew) (by omega) HT2.out.1) ?_
                rintro e wC ⟨ra, rc, rfl, H3⟩
                obtain ⟨_, _, e3, hrc, _, hrq⟩ := own_cq H3.out.1
                cases e3
                have HRA := hid (show At wC ra (M.pbytes ⟨no, kd, ts.map (·.bs)⟩) from hrq.at)
                have A3 := hid (show Adds wr wC from Touch.trans ((Touch.refl _ wr).drew) H3.out.2)
                clear hrq H3
                have HR3 := hid (fun (w' : World) => show (Instr.sliceAt 30 (.slice ra 256 rc) none (some (.int .i64 252)) none).run Try.prog w' = .ok (.slice ra 252 rc) w' from run_pre ra 256 rc 252 (by omega) w')
                have HR4 := hid (fun (w' : World) (hw : Adds wC w') => show (convert 30 9 (.slice ra 252 rc)).run Try.prog w' = .ok (.string ⟨x.toArray⟩) w' by
                  have q := conv_at w' ra ((M.pbytes ⟨no, kd, ts.map (·.bs)⟩).take 252) rc ((HRA.out.pre 252).adds hw)
                  rw [M.take_pbytes HT2.out.1, M.len_pfirst HT2.out.1, HXY.out.1] at q
                  exact q)
                refine ⟨_, fun (w' : World) => Adds wC w', rfl, Touch.refl _ _, fun w' h => A3.out.trans h, ?_⟩
                clear hS
                have hS : (fun (w' : World) => Adds wC w') wC := Touch.refl _ _
                simp only [Act.put, List.setIfInBounds_toArray, List.set_cons_zero, List.set_cons_succ]
                refine H_put (i := 2) 101 (v := .slice ra 252 rc) rfl rfl (by kernel_rfl) (by kernel_rfl) (by kernel_rfl) (fun _ _ _ h => h) (Or.inl ⟨by rfl, fun w' hw' => ?_⟩) hS ?_
                · have q1 := HR3.out w'; go_simp
                simp only [Act.put, List.setIfInBounds_toArray, List.set_cons_zero, List.set_cons_succ]
                refine H_put (i := 3) 102 (v := .string ⟨x.toArray⟩) rfl rfl (by kernel_rfl) (by kernel_rfl) (by kernel_rfl) (fun _ _ _ h => h) (Or.inl ⟨by rfl, fun w' hw' => ?_⟩) hS ?_
                · have q1 := HR4.out w' hw'; go_simp
                simp only [Act.put, List.setIfInBounds_toArray, List.set_cons_zero, List.set_cons_succ]
                refine H_put (i := 7) 106 (v := .bool true) rfl rfl (by kernel_rfl) (by kernel_rfl) (by kernel_rfl) (fun _ _ _ h => h) (Or.inl ⟨by rfl, fun w' hw' => ?_⟩) hS ?_
                · go_simp
                simp only [Act.put, List.setIfInBounds_toArray, List.set_cons_zero, List.set_cons_succ]
                refine wpAnyH_done (by kernel_rfl) ?_ _
                have P9 := hid (HPs.out.add A3.out)
                obtain ⟨⟨r0, r1, r2⟩, s0, s1, s2⟩ := P9.out.res
                go_wp2_with fail
                refine bodyPost_ret (v := .tuple #[.agg #[.int .i64 0, .int .u8 0, .slice none 0 0], .bool false]) (by simp [results, Try.results51, go_sem, r0, r1, r2]) rfl (PParse.no HN.out ?_)
                exact res_adds HB.out P9.out.adds _ _ _
        · have HN := hid (show M.readP bs = none from M.read_rest HD.out.2.2.2.2.1 (by rw [HD.out.2.2.1]; exact HI.out.1) (by rw [HD.out.2.2.2.1]; exact hbt))
          have hbt' : ((bn : Int) != (T : Int)) = true := by simp; omega
          obtain ⟨⟨r0, r1, r2⟩, s0, s1, s2⟩ := HI.out.2.2.2.2.res
          go_wp2_with fail
          refine bodyPost_ret (v := .tuple #[.agg #[.int .i64 0, .int .u8 0, .slice none 0 0], .bool false]) (by simp [results, Try.results51, go_sem, r0, r1, r2]) rfl (PParse.no HN.out ?_)
          exact res_adds HB.out HI.out.2.2.2.2.adds _ _ _
end Go.Proofs.Ytplppnngmlljnaa

/- The reference: a node that is being read. -/
namespace Go.Proofs.Ytplppnngmlljnaa
open Go.RowKit

theorem IsS.boxR {w : World} {p : Nat} {s : M.St} (h : IsS w p s) : ∃ cs, w.heap[p]? = some (.cells cs 89 (0, 0)) := by
  obtain ⟨a, cap, hb, _⟩ := h.box
  exact ⟨_, hb⟩
/-- A node that is being read. -/
structure Rz (wc wx : World) (N5 : Nat) (leaf : Bool) (z : NM) : Prop where
  touch : Touch (fun j => j = N5) wc wx
  own : NOwn wx wc.heap.size z
  ck : ∀ g, z.kv.ownBlock = some g → Cold wx g
  cv : ∀ g, z.vv.ownBlock = some g → Cold wx g
  ci : ∀ g, z.iv.ownBlock = some g → Cold wx g
  box : wx.heap[N5]? = some (.cells #[.bool leaf, z.kv, z.vv, z.iv] 26 (0, 0))
  lf : z.leaf = leaf
/-- Blocks turn that are neither the box nor rows: of another type, and new or the reader's. -/
theorem Rz.other {wc wx w' : World} {N5 : Nat} {leaf : Bool} {z : NM} (h : Rz wc wx N5 leaf z) {q : Nat} {cs : Array Value} {t : TypeId} (hb : wx.heap[q]? = some (.cells cs t (0, 0))) (ht : t ≠ 9 ∧ t ≠ 30 ∧ t ≠ 3 ∧ t ≠ 5 ∧ t ≠ 26) (hq : wc.heap.size ≤ q) (hT : Touch (fun j => j = q) wx w') : Rz wc w' N5 leaf z := by
  have n1 : ∀ j, z.kv.ownBlock = some j → ¬ j = q := fun j hj c => row_ne h.own.keys hb (fun e => ht.1 e.symm) hj c
  have n2 : ∀ j, z.vv.ownBlock = some j → ¬ j = q := fun j hj c => row_ne h.own.vals hb (fun e => ht.2.1 e.symm) hj c
  have n3 : ∀ j, z.iv.ownBlock = some j → ¬ j = q := fun j hj c => row_ne h.own.kids hb (fun e => ht.2.2.1 e.symm) hj c
  refine ⟨h.touch.then hT (fun j hj e => by omega), ⟨row_touch h.own.keys hT n1, row_touch h.own.vals hT n2, fun p hp => (h.own.each p hp).touch hT (fun k hk cs' fr e => ?_), row_touch h.own.kids hT n3⟩, fun g hg => cold_touch (h.ck g hg) hT (row_lt h.own.keys hg) (n1 g hg), fun g hg => cold_touch (h.cv g hg) hT (row_lt h.own.vals hg) (n2 g hg), fun g hg => cold_touch (h.ci g hg) hT (row_lt h.own.kids hg) (n3 g hg), ?_, h.lf⟩
  · subst hk
    rw [hb] at e
    injection e with e1
    injection e1 with _ e2 _
    exact ht.2.2.2.1 e2
  · rw [hT.block N5 (Array.getElem?_eq_some_iff.1 h.box).1 (fun c => ?_)]
    · exact h.box
    · subst c
      have := h.box
      rw [hb] at this
      injection this with e1
      injection e1 with _ e2 _
      exact ht.2.2.2.2 e2
theorem Rz.adds {wc wx w' : World} {N5 : Nat} {leaf : Bool} {z : NM} (h : Rz wc wx N5 leaf z) (hA : Adds wx w') : Rz wc w' N5 leaf z :=
  ⟨h.touch.then hA (fun _ _ c => c.elim), h.own.adds hA, fun g hg => cold_touch (h.ck g hg) hA (row_lt h.own.keys hg) id, fun g hg => cold_touch (h.cv g hg) hA (row_lt h.own.vals hg) id, fun g hg => cold_touch (h.ci g hg) hA (row_lt h.own.kids hg) id, box_adds h.box hA, h.lf⟩
/-- A reader's call. -/
theorem Rz.read {wc wx w' : World} {N5 p : Nat} {leaf : Bool} {z : NM} {s : M.St} (h : Rz wc wx N5 leaf z) (hr : IsS wx p s) (hp : wc.heap.size ≤ p) (hT : Touch (Own1 (.pointer (some ⟨p, 0, none⟩))) wx w') : Rz wc w' N5 leaf z := by
  obtain ⟨cs, hb⟩ := hr.boxR
  refine h.other hb (by decide) hp (hT.mono (fun j _ c => ?_))
  simp only [Own1, Value.pointer.injEq, Option.some.injEq, Addr.mk.injEq] at c
  exact c.1.symm
theorem rcold_box {w : World} {N5 : Nat} {leaf : Bool} {a b c : Option Addr} {a1 a2 b1 b2 c1 c2 : Nat} (h : w.heap[N5]? = some (.cells #[.bool leaf, .slice a a1 a2, .slice b b1 b2, .slice c c1 c2] 26 (0, 0))) : Cold w N5 := by
  refine cold_cells h (fun u hu c e => ?_)
  simp at hu
  rcases hu with rfl | rfl | rfl | rfl <;> cases e
/-- The reader stays when a row without bytes grows. -/
theorem IsS.grown {w w' : World} {p : Nat} {s : M.St} {B n : Nat} {e : TypeId} {v : Value} {xs : List Value} (h : IsS w p s) (hr : w.ownsRow B e 1 v n xs) (he : e ≠ 89) (hc : ∀ g, v.ownBlock = some g → Cold w g) (hT : Touch (fun j => v.ownBlock = some j) w w') : IsS w' p s := by
  obtain ⟨cs, hb⟩ := h.boxR
  exact h.keep hT (fun k hk => hc k hk) (fun hk => row_ne hr hb he hk rfl)
theorem IsS.boxed {w : World} {p N5 j : Nat} {s : M.St} {leaf : Bool} {z : NM} {v : Value} (h : IsS w p s) (hb : w.heap[N5]? = some (.cells #[.bool leaf, z.kv, z.vv, z.iv] 26 (0, 0))) : IsS (w.setCell ⟨N5, j, none⟩ v) p s := by
  obtain ⟨cs, hr⟩ := h.boxR
  have hT : Touch (fun k => k = N5) w (w.setCell ⟨N5, j, none⟩ v) := Touch.setCell (T := fun k => k = N5) (Touch.refl _ w) (p := ⟨N5, j, none⟩) (fun _ => rfl) _
  refine h.keep hT (fun k hk => by subst hk; exact rcold_box hb) (fun hk => ?_)
  subst hk
  rw [hr] at hb
  injection hb with e1
  injection e1 with _ e2 _
  exact absurd e2 (by decide)
/-- A reader is made of bytes that lie there. -/
theorem IsS.fresh {w : World} {a : Option Addr} {bs : List UInt8} {m cap : Nat} {Q : Nat → Prop} (h : PQ w Q ⟨a, bs, cap⟩) (hm : m = bs.length) (hr : Rm w.heap.size ⟨a, bs, cap⟩) (hl : m ≤ 1000000) : IsS (w.alloc (.cells #[.slice a m cap, .int .i64 0] 89)) w.heap.size ⟨0, bs⟩ := by
  subst hm
  exact ⟨⟨a, cap, heap_alloc_new w _, ⟨(h.at_.at).adds ((Touch.refl _ w).alloc _), hr.1, h.non, hr.2⟩⟩, fun c => absurd rfl c, hl, Nat.zero_le _⟩
/-- A key more. -/
theorem Rz.key {wc W w' : World} {N5 : Nat} {leaf : Bool} {z : NM} {key : List UInt8} {v' : Value} (h : Rz wc W N5 leaf z) (r1 : w'.ownsRow wc.heap.size 9 1 v' (z.ks.length + 1) (Ss z.ks ++ [Str key])) (r2 : Touch (fun j => z.kv.ownBlock = some j) W w') (r4 : ∀ g, v'.ownBlock = some g → Cold w' g) :
    ∃ a' c', v' = .slice a' (z.ks.length + 1) c' ∧ w'.heap[N5]? = some (.cells #[.bool leaf, z.kv, z.vv, z.iv] 26 (0, 0)) ∧ Rz wc (w'.setCell ⟨N5, 1, none⟩ v') N5 leaf ⟨z.leaf, a', c', z.ks ++ [key], z.v, z.ia, z.ic, z.is⟩ := by
  obtain ⟨a', c', rfl, _⟩ := own_cq r1
  have hT : Touch (fun k => k = N5) w' (w'.setCell ⟨N5, 1, none⟩ (.slice a' (z.ks.length + 1) c')) := Touch.setCell (T := fun k => k = N5) (Touch.refl _ w') (p := ⟨N5, 1, none⟩) (fun _ => rfl) _
  have hbx : w'.heap[N5]? = some (.cells #[.bool leaf, z.kv, z.vv, z.iv] 26 (0, 0)) := by
    rw [r2.block N5 (Array.getElem?_eq_some_iff.1 h.box).1 (fun c => row_ne h.own.keys h.box (by decide) c rfl)]; exact h.box
  have k2 := row_touch h.own.vals r2 (fun j hj c => row_apt h.own.vals h.own.keys (by decide) hj c)
  have k3 := row_touch h.own.kids r2 (fun j hj c => row_apt h.own.kids h.own.keys (by decide) hj c)
  have hlow : ∀ j, z.kv.ownBlock = some j → wc.heap.size ≤ j := fun j hj => by
    rcases h.own.keys.2 with ⟨q, _⟩ | ⟨g, cap, cur, q, hb', _⟩
    · rw [q] at hj; cases hj
    · rw [q] at hj
      have e : g = j := Option.some.inj hj
      omega
  have ns : ∀ {e : TypeId} {v : Value} {n : Nat} {xs : List Value}, w'.ownsRow wc.heap.size e 1 v n xs → e ≠ 26 → ∀ j, v.ownBlock = some j → ¬ j = N5 := fun hr he j hj c => row_ne hr hbx he hj c
  have e9 : (z.ks ++ [key]).length = z.ks.length + 1 := by simp
  refine ⟨a', c', rfl, hbx, ⟨(h.touch.then r2 (fun j hj c => by have := hlow j c; omega)).then hT (fun j _ c => c), ⟨?_, row_touch k2 hT (ns k2 (by decide)), fun p hp => (((h.own.each p hp).touch r2 (fun k hk cs fr e => ?_))).touch hT (fun k hk cs fr e => ?_), row_touch k3 hT (ns k3 (by decide))⟩, fun g hg => ?_, fun g hg => ?_, fun g hg => ?_, ?_, h.lf⟩⟩
  · show World.ownsRow _ wc.heap.size 9 1 (.slice a' (z.ks ++ [key]).length c') (z.ks ++ [key]).length (Ss (z.ks ++ [key]))
    rw [e9, show Ss (z.ks ++ [key]) = Ss z.ks ++ [Str key] by simp [Ss]]
    exact row_touch r1 hT (ns r1 (by decide))
  · obtain ⟨cur, q⟩ := row_type h.own.keys hk
    rw [q] at e
    injection e with e1
    injection e1 with _ e2 _
    exact absurd e2 (by decide)
  · subst hk
    rw [hbx] at e
    injection e with e1
    injection e1 with _ e2 _
    exact absurd e2 (by decide)
  · have hg' : (Value.slice a' (z.ks.length + 1) c').ownBlock = some g := by rw [← e9]; exact hg
    exact cold_touch (r4 g hg') hT (row_lt r1 hg') (ns r1 (by decide) g hg')
  · exact cold_touch (cold_touch (h.cv g hg) r2 (row_lt h.own.vals hg) (fun c => row_apt h.own.vals h.own.keys (by decide) hg c)) hT (row_lt k2 hg) (ns k2 (by decide) g hg)
  · exact cold_touch (cold_touch (h.ci g hg) r2 (row_lt h.own.kids hg) (fun c => row_apt h.own.kids h.own.keys (by decide) hg c)) hT (row_lt k3 hg) (ns k3 (by decide) g hg)
  · rw [heap_setCell_same w' N5 1 _ 26 _ hbx]
    show _ = some (Obj.cells #[.bool leaf, .slice a' (z.ks ++ [key]).length c', z.vv, z.iv] 26 (0, 0))
    rw [e9]; rfl
/-- A value more. -/
theorem Rz.value {wc W w' : World} {N5 : Nat} {leaf : Bool} {z : NM} {y : Part} {v' : Value} (h : Rz wc W N5 leaf z) (hy : PT W wc.heap.size y) (r1 : w'.ownsRow wc.heap.size 30 1 v' (z.v.l.length + 1) (z.v.l.map PV ++ [PV y])) (r2 : Touch (fun j => z.vv.ownBlock = some j) W w') (r4 : ∀ g, v'.ownBlock = some g → Cold w' g) :
    ∃ a' c', v' = .slice a' (z.v.l.length + 1) c' ∧ w'.heap[N5]? = some (.cells #[.bool leaf, z.kv, z.vv, z.iv] 26 (0, 0)) ∧ Rz wc (w'.setCell ⟨N5, 2, none⟩ v') N5 leaf ⟨z.leaf, z.ka, z.kc, z.ks, ⟨a', c', z.v.l ++ [y]⟩, z.ia, z.ic, z.is⟩ := by
  obtain ⟨a', c', rfl, _⟩ := own_cq r1
  have hT : Touch (fun k => k = N5) w' (w'.setCell ⟨N5, 2, none⟩ (.slice a' (z.v.l.length + 1) c')) := Touch.setCell (T := fun k => k = N5) (Touch.refl _ w') (p := ⟨N5, 2, none⟩) (fun _ => rfl) _
  have hbx : w'.heap[N5]? = some (.cells #[.bool leaf, z.kv, z.vv, z.iv] 26 (0, 0)) := by
    rw [r2.block N5 (Array.getElem?_eq_some_iff.1 h.box).1 (fun c => row_ne h.own.vals h.box (by decide) c rfl)]; exact h.box
  have k2 := row_touch h.own.keys r2 (fun j hj c => row_apt h.own.keys h.own.vals (by decide) hj c)
  have k3 := row_touch h.own.kids r2 (fun j hj c => row_apt h.own.kids h.own.vals (by decide) hj c)
  have hlow : ∀ j, z.vv.ownBlock = some j → wc.heap.size ≤ j := fun j hj => by
    rcases h.own.vals.2 with ⟨q, _⟩ | ⟨g, cap, cur, q, hb', _⟩
    · rw [q] at hj; cases hj
    · rw [q] at hj
      have e : g = j := Option.some.inj hj
      omega
  have ns : ∀ {e : TypeId} {v : Value} {n : Nat} {xs : List Value}, w'.ownsRow wc.heap.size e 1 v n xs → e ≠ 26 → ∀ j, v.ownBlock = some j → ¬ j = N5 := fun hr he j hj c => row_ne hr hbx he hj c
  have e9 : (z.v.l ++ [y]).length = z.v.l.length + 1 := by simp
  refine ⟨a', c', rfl, hbx, ⟨(h.touch.then r2 (fun j hj c => by have := hlow j c; omega)).then hT (fun j _ c => c), ⟨row_touch k2 hT (ns k2 (by decide)), ?_, fun p hp => (((show PT W wc.heap.size p from by rcases List.mem_append.1 hp with hp | hp; exact h.own.each p hp; rw [List.mem_singleton.1 hp]; exact hy).touch r2 (fun k hk cs fr e => ?_))).touch hT (fun k hk cs fr e => ?_), row_touch k3 hT (ns k3 (by decide))⟩, fun g hg => ?_, fun g hg => ?_, fun g hg => ?_, ?_, h.lf⟩⟩
  · show World.ownsRow _ wc.heap.size 30 1 (.slice a' (z.v.l ++ [y]).length c') (z.v.l ++ [y]).length ((z.v.l ++ [y]).map PV)
    rw [e9, List.map_append]
    exact row_touch r1 hT (ns r1 (by decide))
  · obtain ⟨cur, q⟩ := row_type h.own.vals hk
    rw [q] at e
    injection e with e1
    injection e1 with _ e2 _
    exact absurd e2 (by decide)
  · subst hk
    rw [hbx] at e
    injection e with e1
    injection e1 with _ e2 _
    exact absurd e2 (by decide)
  · exact cold_touch (cold_touch (h.ck g hg) r2 (row_lt h.own.keys hg) (fun c => row_apt h.own.keys h.own.vals (by decide) hg c)) hT (row_lt k2 hg) (ns k2 (by decide) g hg)
  · have hg' : (Value.slice a' (z.v.l.length + 1) c').ownBlock = some g := by rw [← e9]; exact hg
    exact cold_touch (r4 g hg') hT (row_lt r1 hg') (ns r1 (by decide) g hg')
  · exact cold_touch (cold_touch (h.ci g hg) r2 (row_lt h.own.kids hg) (fun c => row_apt h.own.kids h.own.vals (by decide) hg c)) hT (row_lt k3 hg) (ns k3 (by decide) g hg)
  · rw [heap_setCell_same w' N5 2 _ 26 _ hbx]
    show _ = some (Obj.cells #[.bool leaf, z.kv, .slice a' (z.v.l ++ [y]).length c', z.iv] 26 (0, 0))
    rw [e9]; rfl
/-- A kid more. -/
theorem Rz.kid {wc W w' : World} {N5 : Nat} {leaf : Bool} {z : NM} {kid : Int} {v' : Value} (h : Rz wc W N5 leaf z) (r1 : w'.ownsRow wc.heap.size 3 1 v' (z.is.length + 1) (Is z.is ++ [.int .i64 kid])) (r2 : Touch (fun j => z.iv.ownBlock = some j) W w') (r4 : ∀ g, v'.ownBlock = some g → Cold w' g) :
    ∃ a' c', v' = .slice a' (z.is.length + 1) c' ∧ w'.heap[N5]? = some (.cells #[.bool leaf, z.kv, z.vv, z.iv] 26 (0, 0)) ∧ Rz wc (w'.setCell ⟨N5, 3, none⟩ v') N5 leaf ⟨z.leaf, z.ka, z.kc, z.ks, z.v, a', c', z.is ++ [kid]⟩ := by
  obtain ⟨a', c', rfl, _⟩ := own_cq r1
  have hT : Touch (fun k => k = N5) w' (w'.setCell ⟨N5, 3, none⟩ (.slice a' (z.is.length + 1) c')) := Touch.setCell (T := fun k => k = N5) (Touch.refl _ w') (p := ⟨N5, 3, none⟩) (fun _ => rfl) _
  have hbx : w'.heap[N5]? = some (.cells #[.bool leaf, z.kv, z.vv, z.iv] 26 (0, 0)) := by
    rw [r2.block N5 (Array.getElem?_eq_some_iff.1 h.box).1 (fun c => row_ne h.own.kids h.box (by decide) c rfl)]; exact h.box
  have k2 := row_touch h.own.vals r2 (fun j hj c => row_apt h.own.vals h.own.kids (by decide) hj c)
  have k3 := row_touch h.own.keys r2 (fun j hj c => row_apt h.own.keys h.own.kids (by decide) hj c)
  have hlow : ∀ j, z.iv.ownBlock = some j → wc.heap.size ≤ j := fun j hj => by
    rcases h.own.kids.2 with ⟨q, _⟩ | ⟨g, cap, cur, q, hb', _⟩
    · rw [q] at hj; cases hj
    · rw [q] at hj
      have e : g = j := Option.some.inj hj
      omega
  have ns : ∀ {e : TypeId} {v : Value} {n : Nat} {xs : List Value}, w'.ownsRow wc.heap.size e 1 v n xs → e ≠ 26 → ∀ j, v.ownBlock = some j → ¬ j = N5 := fun hr he j hj c => row_ne hr hbx he hj c
  have e9 : (z.is ++ [kid]).length = z.is.length + 1 := by simp
  refine ⟨a', c', rfl, hbx, ⟨(h.touch.then r2 (fun j hj c => by have := hlow j c; omega)).then hT (fun j _ c => c), ⟨row_touch k3 hT (ns k3 (by decide)), row_touch k2 hT (ns k2 (by decide)), fun p hp => (((h.own.each p hp).touch r2 (fun k hk cs fr e => ?_))).touch hT (fun k hk cs fr e => ?_), ?_⟩, fun g hg => ?_, fun g hg => ?_, fun g hg => ?_, ?_, h.lf⟩⟩
  · obtain ⟨cur, q⟩ := row_type h.own.kids hk
    rw [q] at e
    injection e with e1
    injection e1 with _ e2 _
    exact absurd e2 (by decide)
  · subst hk
    rw [hbx] at e
    injection e with e1
    injection e1 with _ e2 _
    exact absurd e2 (by decide)
  · show World.ownsRow _ wc.heap.size 3 1 (.slice a' (z.is ++ [kid]).length c') (z.is ++ [kid]).length (Is (z.is ++ [kid]))
    rw [e9, show Is (z.is ++ [kid]) = Is z.is ++ [.int .i64 kid] by simp [Is]]
    exact row_touch r1 hT (ns r1 (by decide))
  · exact cold_touch (cold_touch (h.ck g hg) r2 (row_lt h.own.keys hg) (fun c => row_apt h.own.keys h.own.kids (by decide) hg c)) hT (row_lt k3 hg) (ns k3 (by decide) g hg)
  · exact cold_touch (cold_touch (h.cv g hg) r2 (row_lt h.own.vals hg) (fun c => row_apt h.own.vals h.own.kids (by decide) hg c)) hT (row_lt k2 hg) (ns k2 (by decide) g hg)
  · have hg' : (Value.slice a' (z.is.length + 1) c').ownBlock = some g := by rw [← e9]; exact hg
    exact cold_touch (r4 g hg') hT (row_lt r1 hg') (ns r1 (by decide) g hg')
  · rw [heap_setCell_same w' N5 3 _ 26 _ hbx]
    show _ = some (Obj.cells #[.bool leaf, z.kv, z.vv, .slice a' (z.is ++ [kid]).length c'] 26 (0, 0))
    rw [e9]; rfl
end Go.Proofs.Ytplppnngmlljnaa
