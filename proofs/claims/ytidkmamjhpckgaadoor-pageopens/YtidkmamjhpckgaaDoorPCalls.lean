/- Kind, Count, Free, Get, Cells, Insert, Replace, Remove of a page. -/
import Derived.Test.YtidkmamjhpckgaaDoorPChange
namespace Go.Proofs.YtidkmamjhpckgaaDoor
open Go.RowKit

namespace M
def getP (bs : List UInt8) (i : Int) : List UInt8 := match readP bs with
  | none => []
  | some p => if i < 0 ∨ (p.cells.length : Int) ≤ i then [] else p.cells.getD i.toNat []
def getE (bs : List UInt8) (i : Int) : Nat := match readP bs with
  | none => 22
  | some p => if i < 0 ∨ (p.cells.length : Int) ≤ i then 40 else 0
end M
set_option maxRecDepth 100000 in
set_option maxHeartbeats 400000 in
theorem gcount_any (a : Option Addr) (bs : List UInt8) (n cap : Nat) (w : World) (hn : bs.length = n) (hc : n ≤ cap) (hA : At w a bs) : Calls Tryd.prog 25 #[.slice a n cap] w (Adding (.int .i64 ((M.cellsP bs).length : Int)) w) := by
  cases hR : M.readP bs with
  | none =>
    have H := hid (gread_none hR a n cap w hn hc hA)
    have HE := hid (M.none_all hR).2.2.1
    clear hA hn hR
    go_enter Tryd.func25, Tryd.ntmps25
    go_wp2_with (go_at_call 14; refine H.out.mono ?_; rintro e w1 ⟨va, vc, rfl, hA1⟩; have HA1 := hid hA1; clear hA1)
    go_ret
    exact ⟨by rw [HE.out]; rfl, HA1.out.alloc _⟩
  | some p =>
    have H := hid (gread_some hR a n cap w hn hc hA)
    have HE := hid (M.some_all hR).2.2.1
    clear hA hn hR
    go_enter Tryd.func25, Tryd.ntmps25
    go_wp2_with (go_at_call 14; refine H.out.mono ?_; rintro e w1 ⟨va, vc, hs, rfl, hA1⟩; have HA1 := hid hA1.out.2.2.1; clear hA1)
    go_ret
    exact ⟨by rw [HE.out]; rfl, HA1.out.alloc _⟩
set_option maxRecDepth 100000 in
set_option maxHeartbeats 1000000 in
theorem gfree_any (a : Option Addr) (bs : List UInt8) (n cap : Nat) (w : World) (hn : bs.length = n) (hc : n ≤ cap) (hA : At w a bs) : Calls Tryd.prog 24 #[.slice a n cap] w (Adding (.int .i64 (M.freeP bs)) w) := by
  cases hR : M.readP bs with
  | none =>
    have H := hid (gread_none hR a n cap w hn hc hA)
    have HE := hid (show M.freeP bs = -1 by rw [M.freeP, hR])
    clear hA hn hR
    go_enter Tryd.func24, Tryd.ntmps24
    go_wp2_with (go_at_call 14; refine H.out.mono ?_; rintro e w1 ⟨va, vc, rfl, hA1⟩; have HA1 := hid hA1; clear hA1)
    go_ret
    exact ⟨by rw [HE.out]; rfl, HA1.out.alloc _⟩
  | some p =>
    have H := hid (gread_some hR a n cap w hn hc hA)
    have hok := (M.read_ok hR).1
    have hcn := hok.count.1
    have HK := hid hok
    have HE := hid (show M.freeP bs = if 242 < M.taken p.cells then -1 else 242 - (M.taken p.cells : Int) by rw [M.freeP, hR])
    have ht := hok.room
    obtain ⟨t, ht0⟩ : ∃ t, t = M.taken p.cells := ⟨_, rfl⟩
    rw [← ht0] at ht HE
    have HT := hid ht0
    generalize hN : p.cells.length = N at *
    have HN := hid hN
    clear hA hn hR hok hN ht0
    by_cases h2 : 242 < t
    · rw [if_pos h2] at HE
      go_enter Tryd.func24, Tryd.ntmps24
      go_wp2_with (first
        | (go_at_call 14; refine H.out.mono ?_; rintro e w1 ⟨va, vc, hs, rfl, H1⟩)
        | (go_at_call 26; refine (gleft_any va hs N vc H1.out.2.2.2.1 _ (H1.out.2.1.adds ((Touch.refl _ w1).alloc _)) (fun x hx => by have := cell_len HK.out (c := x.bs) (by rw [← H1.out.1]; exact List.mem_map_of_mem hx); omega) (by omega)).mono ?_; rintro e w2 ⟨z, rfl, hw, hz⟩; rw [hw]; clear hw; have hz2 : z = 244 - (t : Int) := by (have q := hz.out.1; rw [H1.out.1, ← HT.out] at q; exact q ht)
           subst hz2; clear hz; have hmx : max ((244 : Int) - (t : Int) - 2) (-1) = -1 := by omega))
      all_goals
        go_ret
        refine ⟨?_, H1.out.2.2.1.alloc _⟩
        rw [HE.out]
        first | rfl | (show Ending.returned (.int .i64 _) = Ending.returned (.int .i64 _); congr 2; omega)
    · rw [if_neg h2] at HE
      go_enter Tryd.func24, Tryd.ntmps24
      go_wp2_with (first
        | (go_at_call 14; refine H.out.mono ?_; rintro e w1 ⟨va, vc, hs, rfl, H1⟩)
        | (go_at_call 26; refine (gleft_any va hs N vc H1.out.2.2.2.1 _ (H1.out.2.1.adds ((Touch.refl _ w1).alloc _)) (fun x hx => by have := cell_len HK.out (c := x.bs) (by rw [← H1.out.1]; exact List.mem_map_of_mem hx); omega) (by omega)).mono ?_; rintro e w2 ⟨z, rfl, hw, hz⟩; rw [hw]; clear hw; have hz2 : z = 244 - (t : Int) := by (have q := hz.out.1; rw [H1.out.1, ← HT.out] at q; exact q ht)
           subst hz2; clear hz; have hmx : max ((244 : Int) - (t : Int) - 2) (-1) = 242 - (t : Int) := by omega))
      all_goals
        go_ret
        refine ⟨?_, H1.out.2.2.1.alloc _⟩
        rw [HE.out]
        first | rfl | (show Ending.returned (.int .i64 _) = Ending.returned (.int .i64 _); congr 2; omega)
end Go.Proofs.YtidkmamjhpckgaaDoor
