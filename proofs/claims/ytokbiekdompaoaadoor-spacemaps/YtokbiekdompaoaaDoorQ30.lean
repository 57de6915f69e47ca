/- The reference's Taken and Bytes. -/
import Derived.Test.YtokbiekdompaoaaDoorQ10
import Derived.Deep.CutBlock
import Derived.Deep.DeepCutAuto
namespace Go.Proofs.YtokbiekdompaoaaDoor
open Go.RowKit

/-- Bytes put behind a row of one's own, where the operation stands alone. -/
theorem wp_append_m {w : World} {o : Oper} {act : Act} {K : Act → World → Prop} {Q : Exit → Act → World → Prop} (s x : Operand)
    (ho : o.op = .call { callee := .builtin .append, args := #[s, x], argTypes := #[55, 55] }) (base : Nat) (v : Value) (n : Nat) (xs : List Value) (hs : act.eval s = v) (hown : w.ownsRow base 5 1 v n xs)
    (a : Option Addr) (bs : List UInt8) (m cap : Nat) (hm : bs.length = m) (hx : act.eval x = .slice a m cap) (hcap : a = none → cap = 0) (hA : At w a bs) (hlen : n + m ≤ 1000000000) (hbase : base ≤ w.heap.size)
    (h : ∀ v' w', w'.ownsRow base 5 1 v' (n + m) (xs ++ S bs) → w.grownBy w' v.ownBlock → K (act.put o.dst v') w') : o.wp Tryd.prog act w K Q := by
  obtain ⟨i0, hi, hz0, hz1, hz2⟩ := info5all
  cases a with
  | none =>
    obtain rfl := hcap rfl
    obtain rfl : bs = [] := by
      cases bs with
      | nil => rfl
      | cons c bs => obtain ⟨b, o', e, _⟩ := hA 0 c rfl; cases e
    obtain rfl : m = 0 := by rw [← hm]; rfl
    have hrun := run_append_owned_none (P := Tryd.prog) (w := w) base 55 o.type 5 i0 1 Tryd.underlying55 hi v n xs hown
    unfold Oper.wp
    simp [execOp, ho, resolve, invoke, builtin, hs, hx, hrun, Result.andThen]
    exact h v w (by simpa [S] using hown) ⟨rfl, rfl, rfl, Nat.le_refl _, fun _ _ _ => rfl⟩
  | some ad =>
    obtain ⟨v', w', hr, h2, h3, _, _⟩ := run_append_own_at (P := Tryd.prog) w base 55 o.type 5 i0 (.int .u8 0) 1 1 Tryd.underlying55 hi hz0 hz1 hz2 rfl (by decide) v n xs hown ad m cap (S bs) (by rw [length_S]; omega) (by
      intro j y hj
      rw [S_get] at hj
      obtain ⟨c, hc, rfl⟩ := Option.map_eq_some_iff.1 hj
      obtain ⟨b, o', e, h1⟩ := hA j c hc
      obtain rfl : ad = ⟨b, o', none⟩ := by simpa using e
      rw [Addr.add_mid]; exact h1) (one_S bs) (by unfold maxLen; omega) (by omega) hbase
    unfold Oper.wp execOp
    simp only [ho, resolve, invoke, builtin, Sem.run_bind, Sem.run_pure, Result.andThen_ok, List.map_toArray, List.map_cons, List.map_nil, hs, hx, hr]
    exact h v' w' h2 h3
theorem append_m {w : World} {ops : Array Oper} {rest : List Oper} {o : Oper} {act : Act} {Q : Exit → Act → World → Prop} (hgd : o.guard = none) (s x : Operand)
    (ho : o.op = .call { callee := .builtin .append, args := #[s, x], argTypes := #[55, 55] }) (base : Nat) (v : Value) (n : Nat) (xs : List Value) (hs : act.eval s = v) (hown : w.ownsRow base 5 1 v n xs)
    (a : Option Addr) (bs : List UInt8) (m cap : Nat) (hm : bs.length = m) (hx : act.eval x = .slice a m cap) (hcap : a = none → cap = 0) (hA : At w a bs) (hlen : n + m ≤ 1000000000) (hbase : base ≤ w.heap.size)
    (h : ∀ v' w', w'.ownsRow base 5 1 v' (n + m) (xs ++ S bs) → w.grownBy w' v.ownBlock → wpList Tryd.prog ops Q rest (act.put o.dst v') w') : wpList Tryd.prog ops Q (o :: rest) act w :=
  wpList_plain hgd fun _ hK => wp_append_m s x ho base v n xs hs hown a bs m cap hm hx hcap hA hlen hbase (fun v' w' h1 h2 => hK _ _ (h v' w' h1 h2))
theorem At.two0 (w : World) (c d : UInt8) : At (w.alloc (.cells #[.int .u8 (c.toNat : Int), .int .u8 (d.toNat : Int)] 5)) (some ⟨w.heap.size, 0, none⟩) [c, d] := by
  intro j x hj
  refine ⟨_, _, rfl, ?_⟩
  rw [cell_of_row _ _ _ _ _ _ (heap_alloc_new w _)]
  match j, hj with
  | 0, hj => obtain rfl : c = x := Option.some.inj hj; rfl
  | 1, hj => obtain rfl : d = x := Option.some.inj hj; rfl
  | j + 2, hj => simp at hj
/-- What the reference's Fixed tells. -/
def PFixR (w : World) (n k : Nat) (e : Ending) (w' : World) : Prop := ∃ va vc, e = .returned (.slice va k vc) ∧ Hid (w'.ownsRow w.heap.size 5 1 (.slice va k vc) k (S (M.fix n k)) ∧ (va = none → vc = 0) ∧ Adds w w')
theorem row_at {w : World} {base n cap : Nat} {a : Option Addr} {bs : List UInt8} (h : w.ownsRow base 5 1 (.slice a n cap) n (S bs)) : At w a bs := by
  obtain ⟨a', c', e, _, _, hq⟩ := own_cq h
  cases e
  exact hq.at
/-- A row of bytes in new memory, beside a box. -/
structure RowN (w0 w : World) (v : Value) (n : Nat) (bs : List UInt8) : Prop where
  row : w.ownsRow (w0.heap.size + 1) 5 1 v n (S bs)
  len : bs.length = n
  adds : Adds w0 w
  low : w0.heap.size + 1 ≤ w.heap.size
theorem RowN.grow {w0 w w' : World} {v v' : Value} {bs cs : List UInt8} {n m : Nat} (h : RowN w0 w v n bs) {w1 : World} (hA : Adds w w1) (hm : cs.length = m) (hown : w'.ownsRow (w0.heap.size + 1) 5 1 v' (n + m) (S bs ++ S cs)) (hg : w1.grownBy w' v.ownBlock) : RowN w0 w' v' (n + m) (bs ++ cs) ∧ Touch (fun k => w0.heap.size + 1 ≤ k) w1 w' := by
  have hT : Touch (fun k => w0.heap.size + 1 ≤ k) w1 w' := Touch.grown (T := fun k => w0.heap.size + 1 ≤ k) (Touch.refl _ _) hg (fun k hk _ => (row_low h.row hk).1)
  refine ⟨⟨?_, by rw [List.length_append, h.len, hm], Touch.grown (h.adds.trans hA) hg (fun k hk hlt => by have := (row_low h.row hk).1; omega), by have h1 := h.low; have h2 := hA.size; have h3 := hT.size; omega⟩, hT⟩
  simp only [S, List.map_append]
  exact hown
theorem RowN.own {w0 w w1 : World} {v : Value} {bs : List UInt8} {n : Nat} (h : RowN w0 w v n bs) (hA : Adds w w1) : w1.ownsRow (w0.heap.size + 1) 5 1 v n (S bs) := row_touch h.row hA (fun _ _ => id)
theorem RowN.lo {w0 w w1 : World} {v : Value} {bs : List UInt8} {n : Nat} (h : RowN w0 w v n bs) (hA : Adds w w1) : w0.heap.size + 1 ≤ w1.heap.size := Nat.le_trans h.low hA.size
theorem RowN.slice {w0 w : World} {v : Value} {bs : List UInt8} {n : Nat} (h : RowN w0 w v n bs) : ∃ a c, v = .slice a n c := by
  obtain ⟨a, c, e, _⟩ := own_cq h.row
  exact ⟨a, c, e⟩
/-- How long a slice is. -/
def lenV : Value → Nat
  | .slice _ n _ => n
  | _ => 0
/-- What stands ahead of the ends. -/
theorem phead_eq (no : Nat) (kd : UInt8) (n E : Nat) : M.hd6 no kd n ++ M.fix E 2 = M.phead no kd n E := by
  rw [M.hd6, M.phead, List.append_assoc]; rfl
theorem ends_nx {cs : List (List UInt8)} {k : Nat} {c : List UInt8} (hc : cs[k]? = some c) : M.ends 0 (cs.take (k + 1)) = M.ends 0 (cs.take k) ++ M.fix (cs.take (k + 1)).flatten.length 2 := by
  rw [M.flat_nx hc, List.length_append]
  conv => lhs; rw [List.take_add_one, hc]
  show M.ends 0 (_ ++ [c]) = _
  rw [M.ends_snoc, Nat.zero_add]
theorem bytes_end (no : Nat) (kd : UInt8) (cs : List (List UInt8)) (h : M.taken cs ≤ 244) : (M.phead no kd cs.length cs.flatten.length ++ M.ends 0 cs ++ cs.flatten) ++ List.replicate (248 - M.taken cs) 0 = M.pbytes ⟨no, kd, cs⟩ := by
  rw [M.pbytes, M.pfirst, M.room]
  simp only [List.append_assoc]
  congr 4
  rw [show [(0 : UInt8), 0, 0, 0] = List.replicate 4 0 from rfl, List.replicate_append_replicate]
  congr 1
  omega
end Go.Proofs.YtokbiekdompaoaaDoor
