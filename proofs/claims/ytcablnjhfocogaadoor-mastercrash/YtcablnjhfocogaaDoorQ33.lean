/- Texts put together: WWhole, WFind0. -/
import Derived.Test.YtcablnjhfocogaaDoorQ27
import Derived.Test.YtcablnjhfocogaaDoorQ31
import Derived.Test.YtcablnjhfocogaaDoorQ32
/- How many bytes all pieces of a group have. -/
namespace Go.Proofs.YtcablnjhfocogaaDoor
open Go.RowKit

set_option maxRecDepth 100000 in
theorem W.need_le (b : List UInt8) : W.need b ≤ 4294967299 := by
  unfold W.need M.fixedR
  have h1 := M.takeR_len (M.clamp 4) ⟨0, b.take 4⟩
  rw [show M.clamp 4 = 4 from rfl] at *
  have h2 := (M.fix_unfix _ (M.takeR 4 ⟨0, b.take 4⟩).1 rfl).2
  have h3 : 256 ^ (M.takeR 4 ⟨0, b.take 4⟩).1.length ≤ 256 ^ 4 := Nat.pow_le_pow_right (by decide) h1
  simp only
  omega
end Go.Proofs.YtcablnjhfocogaaDoor

/- The groups that stand are found. -/
namespace Go.Proofs.YtcablnjhfocogaaDoor
open Go.RowKit

/-- The log's sectors. -/
def secOf (D : dSt) (fr : Nat) (i : Nat) : List UInt8 := hasOf D.H D.W ((fr + i : Nat) : Int)
set_option maxRecDepth 100000 in
theorem wp_append_b1 {w : World} {o : Oper} {act : Act} {K : Act → World → Prop} {Q : Exit → Act → World → Prop} (s x : Operand)
    (ho : o.op = .call { callee := .builtin .append, args := #[s, x], argTypes := #[87, 87] }) (v : Value) (n : Nat) (xs : List Value) (hs : act.eval s = v) (hown : w.ownsRow 0 59 1 v n xs)
    (g : Nat) (u : Value) (hx : act.eval x = .slice (some ⟨g, 0, none⟩) 1 1) (hc : w.cell? ⟨g, 0, none⟩ = some u) (hu : u.oneCell' = true) (hlen : n ≤ 10000000)
    (h : ∀ v' w', Grew w w' 59 v v' (n + 1) (xs ++ [u]) → K (act.put o.dst v') w') : o.wp Tryd.prog act w K Q := by
  obtain ⟨i0, hi, hz0, hz1, hz2⟩ := infoB
  refine wp_append_own_at s x 87 ho 0 59 i0 (.slice none 0 0) 1 24 Tryd.underlying87 hi hz0 hz1 hz2 rfl (by decide) v n xs hs hown ⟨g, 0, none⟩ 1 1 [u] hx rfl ?_ (fun y hy => by rw [List.mem_singleton.1 hy]; exact hu) (by unfold maxLen; omega) (by omega) (Nat.zero_le _) (fun v' w' h1 h2 _ h4 => h v' w' ⟨h1, h2, h4⟩)
  intro j y hj
  match j, hj with
  | 0, hj =>
    obtain rfl : u = y := by simpa using hj
    rw [Addr.add_mid]; exact hc
end Go.Proofs.YtcablnjhfocogaaDoor
