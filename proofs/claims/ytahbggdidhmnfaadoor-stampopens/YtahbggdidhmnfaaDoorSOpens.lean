/- The walk of StampOpens. -/
import Derived.Test.YtahbggdidhmnfaaDoorWorks
import Derived.Test.YtahbggdidhmnfaaDoorROpen
namespace Go.Proofs.YtahbggdidhmnfaaDoor
open Go.RowKit

namespace SOp
/-- What the reference's Open tells, in letters. -/
def PRS (w : World) (m : Nat) (k : UInt8) (b : List UInt8) (z : Nat) (e : Ending) (w' : World) : Prop := ∃ av cv, e = .returned (.tuple #[.int .u64 (m : Int), .int .u8 (k.toNat : Int), .slice av b.length cv, .int .i64 (z : Int)]) ∧ Hid (At w' av b) ∧ Adds w w'
theorem rsopen_is (a : Option Addr) (bs : List UInt8) (cap : Nat) (w : World) (m : Nat) (k : UInt8) (b : List UInt8) (z : Nat) (hcap : bs.length ≤ cap) (hA : At w a bs) (hm : M.oMark bs = m) (hk : M.oKind bs = k) (hb : M.oBody bs = b) (hz : M.oErr bs = z) :
    Calls Tryd.prog 12 #[.slice a bs.length cap] w (PRS w m k b z) := by
  subst hm hk hb hz
  exact rsopen_any a bs cap w hcap hA
/-- What the loop keeps. -/
def Inv (w1 : World) (av : Option Addr) (L : Nat) (wr : World) : Prop := (L = 0 ∨ ∃ g cs, av = some ⟨g, 10, none⟩ ∧ w1.heap.size ≤ g ∧ L ≤ 246 ∧ Sec wr g cs) ∧ Adds w1 wr
theorem Inv.start {w1 w2 w3 : World} {av : Option Addr} {b : List UInt8} (h : Body w1 w2 av b) (hA : Adds w1 w2) (hA2 : Adds w2 w3) : Inv w1 av b.length w3 := by
  refine ⟨?_, hA.trans hA2⟩
  rcases h with rfl | ⟨g, cs, rfl, hg, hS, hb⟩
  · exact .inl rfl
  · refine .inr ⟨g, cs, rfl, hg, ?_, hS.adds hA2⟩
    have := congrArg List.length hb
    rw [List.length_take, List.length_drop, hS.len] at this
    omega
theorem inc8 (c : UInt8) : ((c.toNat : Int) + 1) % 256 = ((c + 1).toNat : Int) := by
  rw [UInt8.toNat_add]; simp
theorem incw (c : UInt8) : IntKind.u8.wrap ((c.toNat : Int) + 1) = ((c + 1).toNat : Int) := by rw [← inc8]; rfl

set_option maxRecDepth 100000 in
set_option maxHeartbeats 4000000 in
theorem walk (a : Option Addr) (bs : List UInt8) (cap : Nat) (w : World) (hc : a = none → cap = 0) (hcap : bs.length ≤ cap) (hT : Tab w) (hA : At w a bs) : Calls Tryd.prog 4 #[.slice a bs.length cap] w (Adding (.bool true) w) := by
  by_cases hl : 1000 < bs.length
  · have hd : (1000 : Int) < (bs.length : Int) := by omega
    go_enter Tryd.func4, Tryd.ntmps4
    go_wp2
    go_ret
    exact ⟨rfl, Touch.refl _ _⟩
  · have hd : ¬ (1000 : Int) < (bs.length : Int) := by omega
    obtain ⟨m, hm⟩ : ∃ m, M.oMark bs = m := ⟨_, rfl⟩
    obtain ⟨k, hk⟩ : ∃ k, M.oKind bs = k := ⟨_, rfl⟩
    obtain ⟨b, hb⟩ : ∃ b, M.oBody bs = b := ⟨_, rfl⟩
    obtain ⟨z, hz⟩ : ∃ z, M.oErr bs = z := ⟨_, rfl⟩
    have H1 := hid (fun a' c' w' (hw : Adds w w') (h0 : a' = none → c' = 0) (h1 : At w' a' bs) => sopen_is a' bs c' bs.length w' m k b z rfl h0 h1 (hT.adds hw) hm hk hb hz)
    have H2 := hid (fun w' (hw : Adds w w') => rsopen_is a bs cap w' m k b z hcap (hA.adds hw) hm hk hb hz)
    have HW := hid (fun w' (hw : Adds w w') => works_any w' (hT.adds hw))
    have HA := hid (And.intro (show bs.length ≤ 1000 by omega) (And.intro hc hA))
    have HO := hid (World.ownsRow_lit (base := w.heap.size) (e := 5) (size := 1) w #[] 0 (Nat.le_refl _) (by decide) rfl)
    have HA1 := hid (hA.adds ((Touch.refl _ w).alloc (.cells #[] 5)))
    have hbl : b.length ≤ 1000 := by
      rw [← hb]; unfold M.oBody
      split
      · rw [List.length_take, List.length_drop]; omega
      · simp
    clear hm hk hb hz hc hA hT hl hcap
    go_enter Tryd.func4, Tryd.ntmps4
    go_wp2_with (first
      | (at_builtin; refine append_bytes rfl _ _ rfl w.heap.size (.slice (some ⟨w.heap.size, 0, none⟩) 0 0) 0 [] rfl HO.out a bs cap rfl HA.out.2.1 HA1.out (by have := HA.out.1; omega) (by simp) ?_; intro v1 w1 hown1 hgrow1 hne1; rw [Nat.zero_add, List.nil_append] at hown1; have A1 := hid (show Adds w w1 from Touch.grown ((Touch.refl _ w).alloc _) hgrow1 (fun k hk hlt => by simp [Value.ownBlock] at hk; omega)); obtain ⟨a1, c1, rfl, hL1⟩ := Own.lies hown1; have L1 := hid hL1; clear hown1 hgrow1 hne1 hL1)
      | (go_at_call 11; refine (H1.out a1 c1 w1 A1.out L1.out.non L1.out.at_).mono ?_; rintro e w2 ⟨ax, cx, rfl, X2, hA⟩; have A2 := hid hA; clear hA)
      | (go_at_call 12; refine (H2.out w2 (A1.out.trans A2.out)).mono ?_; rintro e w3 ⟨ay, cy, rfl, Y3, hA⟩; have I3 := hid (Inv.start X2.out A2.out hA); have f1 := conv_at w3 ax b cx (X2.out.at.adds hA); have f2 := conv_at w3 ay b cy Y3.out; generalize (⟨b.toArray⟩ : ByteArray) = BX at f1 f2; clear hA))
    clear f1 f2 H1 H2 HA1 HO X2 Y3 A2
    go_loopw [55] (fun iv wr => ∃ i : Nat, i ≤ b.length ∧ iv = .int .i64 (i : Int) ∧ Hid (Inv w1 ax b.length wr)) (fun iv _ => b.length - (intOf iv).toNat)
    case atStart => exact ⟨0, by omega, rfl, I3.out⟩
    case round =>
      obtain ⟨i, hi, rfl, HI⟩ := hrel
      by_cases hlt : i < b.length
      · have hltz : (i : Int) < (b.length : Int) := by omega
        obtain ⟨h0 | ⟨g, cs, rfl, hg, hL, hS⟩, hA⟩ := HI.out
        · omega
        · obtain ⟨c, hc⟩ : ∃ c, cs[10 + i]? = some c := ⟨_, List.getElem?_eq_getElem (by rw [hS.len]; omega)⟩
          have hcell := hS.cell hc
          have hfr := hS.frozen (10 + i)
          have e1 := inc8 c
          have e2 := incw c
          have HN := hid (show Inv w1 (some ⟨g, 10, none⟩) b.length (wr.setCell ⟨g, 10 + i, none⟩ (.int .u8 ((c + 1).toNat : Int))) from ⟨.inr ⟨g, _, rfl, hg, hL, hS.set (10 + i) (c + 1)⟩, hA.setCell (fun hh => absurd hg (Nat.not_le.2 hh)) _⟩)
          clear hc hS hA HI hg hL I3
          generalize c + 1 = d at *
          go_wp2
          go_roundw
          case rel => exact ⟨i + 1, by omega, by go_num, HN.out⟩
          case measure => simp [intOf]; omega
      · obtain rfl : i = b.length := by omega
        have A4 := hid (A1.out.trans HI.out.2)
        have f3 := conv_at wr a1 bs c1 (L1.out.at_.adds HI.out.2)
        have f4 := conv_at wr a bs cap (HA.out.2.2.adds A4.out)
        generalize (⟨bs.toArray⟩ : ByteArray) = BB at f3 f4
        go_wp2_with (first | (go_at_call 10; refine (HW.out wr A4.out).mono ?_; rintro e w5 ⟨rfl, hA⟩; have A5 := hid (A4.out.trans hA); clear hA))
        go_ret
        exact ⟨rfl, A5.out⟩
end SOp
end Go.Proofs.YtahbggdidhmnfaaDoor
