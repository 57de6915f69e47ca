/- A value that came in. -/
import Derived.Test.YtjmldloalieelaaBase
import Derived.Test.YtjmldloalieelaaRight
import Derived.Lib.SmallJoins
namespace Go.Proofs.Ytjmldloalieelaa
open Go.ChangeShapes Go.WideShapes Go.ChangeAt Go.RowKit

theorem k24 : Try.prog.cellsOf 24 = 4 := by kernel_rfl
theorem k3 : Try.prog.cellsOf 3 = 1 := by kernel_rfl
theorem k2 : Try.prog.cellsOf 2 = 1 := by kernel_rfl
theorem k22 : Try.prog.cellsOf 22 = 1 := by kernel_rfl
theorem k9 : Try.prog.cellsOf 9 = 1 := by kernel_rfl
theorem trod_float {H : Type} {enc : TypeId × Value → H} {P : Program} {w : World} {base : Nat} {spare : Nat → Bool} {held : Bool} {fuel : Nat} {t : TypeId} {cs : List Value} {x : DataW H × List MemPlace} (ht : P.underlying t = some (.float .f64)) (h : DataW.trod enc P w base spare held fuel t cs = some x) :
    ∃ b, cs = [.float .f64 b] ∧ (Lit.float .f64 b).wf = true := by
  cases fuel with
  | zero => simp [DataW.trod] at h
  | succ n =>
    unfold DataW.trod at h
    rw [ht] at h
    split at h <;> simp_all
/-- A value that came in: its fields. -/
theorem open_value {H : Type} {enc : TypeId × Value → H} {W : World} {base : Nat} {v : Value} {d : DataW H} {p : List MemPlace} (hval : Value.okWide Try.prog W .any base 24 v) (h : DataW.Trod enc Try.prog W 0 (fun _ => true) true 24 v d p) : ∃ x : M.V, v = VV x ∧ x.Ok := by
  obtain ⟨cs, rfl, hsz⟩ := okWide_struct Try.underlying24 hval
  rw [k24] at hsz
  obtain ⟨l⟩ := cs
  match l, hsz with
  | [c0, c1, c2, c3], _ =>
  obtain ⟨fuel, hf⟩ := h
  obtain ⟨y0, y1, y2, y3, m, _, _, hy0, hy1, hy2, hy3⟩ := Go.Joins.trod_struct4 Try.underlying24 hf
  obtain ⟨k, e0, _, w0⟩ := DataW.trod_int Try.underlying3 hy0
  obtain ⟨n, e1, _, w1⟩ := DataW.trod_int Try.underlying2 hy1
  obtain ⟨b, e2, w2⟩ := trod_float Try.underlying22 hy2
  obtain ⟨s, e3, _, _⟩ := DataW.trod_string Try.underlying9 hy3
  simp [Value.cells, k3, k2, k22, k9] at e0 e1 e2 e3
  subst e0 e1 e2 e3
  obtain ⟨⟨ts⟩⟩ := s
  exact ⟨⟨k, n, b, ts⟩, rfl, i64_of_wf w0, i64_of_wf w1, f64_of_wf w2⟩
end Go.Proofs.Ytjmldloalieelaa
