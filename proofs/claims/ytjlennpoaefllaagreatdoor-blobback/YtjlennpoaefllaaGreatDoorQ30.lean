/- The reference's Parse, Seal and Open of a page. -/
import Derived.Test.YtjlennpoaefllaaGreatDoorQ11
import Derived.Test.YtjlennpoaefllaaGreatDoorQ29
import Derived.BigQuiet
namespace Go.Proofs.YtjlennpoaefllaaGreatDoor
open Go.RowKit

theorem rparse9 (a : Option Addr) (bs : List UInt8) (n cap : Nat) (w : World) (hn : bs.length = n) (hc : n ≤ cap) (hA : At w a bs) : Calls Tryz.prog 95 #[.slice a n cap] w (PParse w bs) := by
  by_cases h : n = 256
  · subst h
    obtain ⟨b, o, rfl, _⟩ := hA 0 bs[0] (List.getElem?_eq_getElem (by omega))
    by_cases h2 : 127 < (bs.getD 0 0).toNat ∨ M.pKd bs = 0
    · exact rparse_head b o bs cap w hn hA h2
    · exact rparse_256 b o bs cap w hn hc hA (fun c => h2 (.inl c)) (fun c => h2 (.inr c))
  · exact rparse_long a bs n cap w hn h
theorem rparse9_none {bs : List UInt8} (hR : M.readP bs = none) (a : Option Addr) (n cap : Nat) (w : World) (hn : bs.length = n) (hc : n ≤ cap) (hA : At w a bs) : Calls Tryz.prog 95 #[.slice a n cap] w (fun e w' => ∃ va vc, e = .returned (.tuple #[.agg #[.int .i64 0, .int .u8 0, .slice va 0 vc], .bool false]) ∧ Adds w w') := by
  refine (rparse9 a bs n cap w hn hc hA).mono ?_
  rintro e w' ⟨va, vc, hs, rfl, H⟩
  obtain ⟨h1, h2, h3, _⟩ := M.none_all hR
  have h4 := H.out.1
  rw [h3] at h4
  obtain rfl : hs = [] := List.map_eq_nil_iff.1 h4
  exact ⟨va, vc, by rw [h1, h2, hR]; rfl, H.out.2.2.1⟩
theorem rparse9_some {bs : List UInt8} {p : M.Pg} (hR : M.readP bs = some p) (a : Option Addr) (n cap : Nat) (w : World) (hn : bs.length = n) (hc : n ≤ cap) (hA : At w a bs) : Calls Tryz.prog 95 #[.slice a n cap] w (fun e w' => ∃ va vc, ∃ hs : List Part, e = .returned (.tuple #[.agg #[.int .i64 (p.no : Int), .int .u8 (p.kind.toNat : Int), .slice va p.cells.length vc], .bool true]) ∧ Hid (hs.map (·.bs) = p.cells ∧ GQ w' (fun k => w.heap.size ≤ k) ⟨va, vc, hs⟩ ∧ Adds w w' ∧ hs.length = p.cells.length)) := by
  refine (rparse9 a bs n cap w hn hc hA).mono ?_
  rintro e w' ⟨va, vc, hs, rfl, H⟩
  obtain ⟨h1, h2, h3, _⟩ := M.some_all hR
  have h4 := H.out.1
  rw [h3] at h4
  have h5 : hs.length = p.cells.length := by rw [← h4, List.length_map]
  exact ⟨va, vc, hs, by rw [h1, h2, hR, h5]; rfl, h4, H.out.2.1, H.out.2.2.1, h5⟩
end Go.Proofs.YtjlennpoaefllaaGreatDoor
