/- The reference's Same: the same fields? -/
import Derived.Test.YtmmgfankbabfbaaDoorQ17
namespace Go.Proofs.YtmmgfankbabfbaaDoor
open Go.RowKit
set_option maxRecDepth 100000 in
theorem take_eq_nextU {x y : List Nat} {k : Nat} {a : Nat} (h : x.take k = y.take k) (hx : x[k]? = some a) (hy : y[k]? = some a) : x.take (k + 1) = y.take (k + 1) := by
  rw [List.take_add_one, List.take_add_one, h, hx, hy]
set_option maxRecDepth 100000 in
set_option maxHeartbeats 2000000 in
theorem same10 {Q1 Q2 : Nat → Prop} (a1 a2 : Option Addr) (c1 c2 n1 n2 : Nat) (x1 x2 : List Nat) (w : World) (hn1 : x1.length = n1) (hn2 : x2.length = n2) (h1 : NQ w Q1 ⟨a1, c1, x1⟩) (h2 : NQ w Q2 ⟨a2, c2, x2⟩) (hb : n1 ≤ 1000000 ∧ n2 ≤ 1000000) (z : Bool) (hz : z = decide (x1 = x2)) :
    Calls Tryd.prog 20 #[.slice a1 n1 c1, .slice a2 n2 c2] w (Adding (.bool z) w) := by
  by_cases hne : n1 = n2
  · subst hne
    have HG := hid (fun k (hk : k < n1) => h1.get (k := k) (show k < x1.length by omega))
    have HG2 := hid (fun k (hk : k < n1) => h2.get (k := k) (show k < x2.length by omega))
    dsimp only at HG HG2
    have HL := hid (And.intro hn1 (And.intro hn2 hz))
    have hb1 := hb.1
    clear h1 h2 hn1 hn2 hb hz
    go_enter Tryd.func20, Tryd.ntmps20
    go_wp2_with fail
    go_loopw [5] (fun i wr => ∃ k : Nat, k ≤ n1 ∧ i = .int .i64 (k : Int) ∧ Hid (x1.take k = x2.take k ∧ Adds w wr)) (fun i _ => n1 - (intOf i).toNat)
    case atStart => exact ⟨0, Nat.zero_le _, rfl, rfl, Touch.refl _ _⟩
    case round =>
      obtain ⟨k, hk, rfl, HI⟩ := hrel
      by_cases hlt : k < n1
      · obtain ⟨b1, o1, u1, rfl, hx1, hc1⟩ := HG.out k hlt
        obtain ⟨b2, o2, u2, rfl, hx2, hc2⟩ := HG2.out k hlt
        have d1 : wr.cell? ⟨b1, o1 + k, none⟩ = some (.int .u64 (u1 : Int)) := below_adds HI.out.2 hc1
        have d2 : wr.cell? ⟨b2, o2 + k, none⟩ = some (.int .u64 (u2 : Int)) := below_adds HI.out.2 hc2
        have HX := hid (And.intro hx1 hx2)
        clear hx1 hx2 hc1 hc2 HG HG2
        by_cases hu : u1 = u2
        · subst hu
          go_upto_region 6 with fail
          go_region
          go_wp2_with fail
          go_roundw
          case rel => exact ⟨k + 1, by omega, by go_num, take_eq_nextU HI.out.1 HX.out.1 HX.out.2, HI.out.2.drew⟩
          case measure => simp [intOf]; omega
        · have hu1 : (u1 != u2) = true := by simpa using hu
          have hu2 : ¬ (u1 : Int) = (u2 : Int) := by omega
          have HU := hid hu
          clear hu
          go_upto_region 6 with fail
          go_region
          go_wp2_with fail
          go_ret
          refine ⟨?_, HI.out.2.drew⟩
          have e : ¬ x1 = x2 := fun e => HU.out (by have q := HX.out.1; rw [e, HX.out.2] at q; simpa using q.symm)
          rw [HL.out.2.2, decide_eq_false e]; rfl
      · obtain rfl : k = n1 := by omega
        go_wp2_with fail
        go_ret
        refine ⟨?_, HI.out.2⟩
        have e : x1 = x2 := by
          have q := HI.out.1
          rw [List.take_of_length_le (by rw [HL.out.1]; exact Nat.le_refl _), List.take_of_length_le (by rw [HL.out.2.1]; exact Nat.le_refl _)] at q
          exact q
        rw [HL.out.2.2, decide_eq_true e]; rfl
  · have e : ¬ x1 = x2 := fun e => hne (by rw [← hn1, ← hn2, e])
    have HE := hid (show z = false by rw [hz, decide_eq_false e])
    have hne' : (n1 != n2) = true := by simpa using hne
    clear e h1 h2 hz
    go_enter Tryd.func20, Tryd.ntmps20
    go_wp2_with fail
    go_ret
    exact ⟨by rw [HE.out]; rfl, Touch.refl _ _⟩
end Go.Proofs.YtmmgfankbabfbaaDoor
