/- works: the chapter's examples. -/
import Derived.Test.YtahbggdidhmnfaaDoorSOpen
import Derived.Test.YtahbggdidhmnfaaDoorSWrap
namespace Go.Proofs.YtahbggdidhmnfaaDoor
open Go.RowKit

/-- What Open tells, in letters. -/
def PSO (w : World) (m : Nat) (k : UInt8) (b : List UInt8) (z : Nat) (e : Ending) (w' : World) : Prop := ∃ av cv, e = .returned (.tuple #[.int .u64 (m : Int), .int .u8 (k.toNat : Int), .slice av b.length cv, .int .i64 (z : Int)]) ∧ Hid (Body w w' av b) ∧ Adds w w'
theorem sopen_is (a : Option Addr) (bs : List UInt8) (cap len : Nat) (w : World) (m : Nat) (k : UInt8) (b : List UInt8) (z : Nat) (hlen : bs.length = len) (hc : a = none → cap = 0) (hA : At w a bs) (hT : Tab w) (hm : M.oMark bs = m) (hk : M.oKind bs = k) (hb : M.oBody bs = b) (hz : M.oErr bs = z) :
    Calls Tryd.prog 11 #[.slice a len cap] w (PSO w m k b z) := by
  subst hlen hm hk hb hz
  exact sopen_any a bs cap w hc hA hT
theorem make256 (w : World) : (Instr.makeSlice 23 (.int .i64 256) (.int .i64 256)).run Tryd.prog w = .ok (.slice (some ⟨w.heap.size, 0, none⟩) 256 256) (w.alloc (.cells Z256 5)) := by kernel_rfl
theorem At.z256 (w : World) : At (w.alloc (.cells Z256 5)) (some ⟨w.heap.size, 0, none⟩) (List.replicate 256 0) := by
  intro j c hj
  refine ⟨_, _, rfl, ?_⟩
  rw [cell_of_row _ _ _ _ _ _ (heap_alloc_new w _), Nat.zero_add, Z256, List.getElem?_toArray, S_get, hj]; rfl

set_option maxRecDepth 100000 in
set_option maxHeartbeats 4000000 in
theorem works_any (w : World) (hT : Tab w) : Calls Tryd.prog 10 #[] w (Adding (.bool true) w) := by
  have HT := hid hT
  have HW := hid (show Calls Tryd.prog 8 #[.int .u64 5, .int .u8 1, .slice none 0 0] w (PWrap w (M.sector 5 1 [])) from swrap_ok 5 1 none [] 0 w (by decide) (by decide) (by decide) (fun _ => rfl) (At.nil _ _) hT)
  have HZ := hid (M.refused (b := List.replicate 256 0) (by rw [M.noughts_err]; decide))
  have HO := hid (M.sector_opens 5 1 [] (by decide) (by decide) (by decide) (by decide))
  have HL := hid (M.len_sector 5 1 [] (by decide))
  have H5 := hid five
  have hmk := make256
  clear hT
  go_enter Tryd.func10, Tryd.ntmps10
  go_wp2_with (first
    | (go_at_call 8; refine HW.out.mono ?_; rintro e w1 ⟨g, rfl, hg, hS, hA⟩; have S1 := hid hS; have A1 := hid hA; clear hg hS hA)
    | (go_at_call 11; refine (sopen_is (some ⟨g, 0, none⟩) (M.sector 5 1 []) 256 256 w2 5 1 [] 0 HL.out (fun e => by cases e) S2.out.at (HT.out.adds A2.out) HO.out.2.1 HO.out.2.2.1 HO.out.2.2.2 HO.out.1).mono ?_; rintro e w3 ⟨av3, cv3, rfl, _, hA⟩; have A3 := hid (A2.out.trans hA); clear hA)
    | (go_at_call 11; refine (sopen_is (some ⟨w1.heap.size, 0, none⟩) (List.replicate 256 0) 256 256 (w1.alloc (.cells Z256 5)) 0 0 [] 40 (by rw [List.length_replicate]) (fun e => by cases e) (At.z256 w1) (HT.out.adds (A1.out.alloc _)) HZ.out.1 HZ.out.2.1 HZ.out.2.2 M.noughts_err).mono ?_; rintro e w2 ⟨av2, cv2, rfl, _, hA⟩; have A2 := hid ((A1.out.alloc _).trans hA); have S2 := hid (S1.out.adds (((Touch.refl _ w1).alloc _).trans hA)); clear hA; have c7 := S2.out.cell H5.out.1; have c8 := S2.out.cell H5.out.2.1; have c9 := S2.out.cell H5.out.2.2.1; have c255 := S2.out.cell H5.out.2.2.2))
  go_ret
  exact ⟨rfl, A3.out⟩
end Go.Proofs.YtahbggdidhmnfaaDoor
