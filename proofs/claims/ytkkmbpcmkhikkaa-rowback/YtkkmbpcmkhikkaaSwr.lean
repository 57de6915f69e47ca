/- Two parts exchanged; a rotation. -/
import Derived.Test.YtkkmbpcmkhikkaaDat
import Derived.BigRegion
namespace Go.Proofs.Ytkkmbpcmkhikkaa
open Go.RowKit

/-- What the exchange of two parts leaves. -/
def PSwr (w : World) (g a b n : Nat) (l : List Hd) (e : Ending) (w' : World) : Prop := e = .returned (.tuple #[]) ∧ Hid (∃ m, M.SwR a b n l m ∧ Dat w' g m ∧ Only g w w')
set_option maxRecDepth 100000 in
set_option maxHeartbeats 2000000 in
theorem swr_any (f : Value) (g cap a b n : Nat) (l : List Hd) (w : World) (hab : a + n ≤ b) (hb : b + n ≤ l.length) (hl : l.length ≤ 1000000) (hD : Dat w g l) :
    Calls Try.prog 78 #[.slice (some ⟨g, 0, none⟩) l.length cap, .int .i64 (a : Int), .int .i64 (b : Int), .int .i64 (n : Int), f] w (PSwr w g a b n l) := by
  have HS := hid (And.intro (M.SwR.zero a b l) (And.intro hD (Touch.refl (fun k => k = g) w)))
  clear hD
  go_enter Try.func78, Try.ntmps78
  go_wp2_with fail
  go_loopw [10] (fun iv wr => ∃ (i : Nat) (m : List Hd), iv = .int .i64 (i : Int) ∧ i ≤ n ∧ m.length = l.length ∧ Hid (M.SwR a b i l m ∧ Dat wr g m ∧ Only g w wr)) (fun iv _ => n - (intOf iv).toNat)
  case atStart => exact ⟨0, l, rfl, by omega, rfl, HS.out⟩
  case round =>
    obtain ⟨i, m, rfl, hi, hm, HI⟩ := hrel
    clear HS
    by_cases hlt : i < n
    · have hltz : (i : Int) < (n : Int) := by omega
      obtain ⟨x, hx⟩ : ∃ x, m[a + i]! = x := ⟨_, rfl⟩
      obtain ⟨y, hy⟩ : ∃ y, m[b + i]! = y := ⟨_, rfl⟩
      have HX := hid (And.intro hx hy)
      have ca := HI.out.2.1.cell (a + i) (by omega)
      have cb := HI.out.2.1.cell (b + i) (by omega)
      have fa := HI.out.2.1.fro (a + i) (by omega)
      have fb := HI.out.2.1.fro (b + i) (by omega)
      rw [hx] at ca
      rw [hy] at cb
      clear hx hy
      have h1 : (a : Int) + (i : Int) < (l.length : Int) := by omega
      have h2 : (b : Int) + (i : Int) < (l.length : Int) := by omega
      obtain ⟨ai, hai⟩ : ∃ k, k = a + i := ⟨_, rfl⟩
      obtain ⟨bi, hbi⟩ : ∃ k, k = b + i := ⟨_, rfl⟩
      have HL := hid (And.intro hai hbi)
      have e1 : (a : Int) + (i : Int) = (ai : Int) := by omega
      have e2 : (b : Int) + (i : Int) = (bi : Int) := by omega
      have e3 : ai < bi := by omega
      have e4 : ¬ ai = bi := by omega
      have e5 : ¬ bi = ai := by omega
      rw [e1] at h1
      rw [e2] at h2
      rw [← hai] at ca fa
      rw [← hbi] at cb fb
      clear hai hbi
      go_upto_region 3 with fail
      go_region
      all_goals go_wp2_with fail
      go_roundw
      case rel =>
        have hl := HL.out
        have hsw := HI.out.2.1.drew.swap (i := ai) (j := bi) (by omega) (by omega) (x := .slice x.a x.r.length x.cap) (y := .slice y.a y.r.length y.cap) (by rw [hl.1, HX.out.1]) (by rw [hl.2, HX.out.2])
        have hst := HI.out.1.step (by omega) (by omega)
        rw [← hl.1, ← hl.2] at hst
        exact ⟨i + 1, M.swp m ai bi, by go_num, by omega, by rw [M.len_swp]; exact hm, hst, hsw.1, (HI.out.2.2.trans ((Touch.refl _ _).drew)).trans hsw.2⟩
      case measure => simp [intOf]; omega
    · have hltz : ¬ (i : Int) < (n : Int) := by omega
      obtain rfl : i = n := by omega
      go_wp2_with fail
      go_end0
      exact ⟨rfl, m, HI.out⟩
end Go.Proofs.Ytkkmbpcmkhikkaa
