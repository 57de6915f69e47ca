/- Pages by definition: a cell put in, taken out, put in the place of another one; pages made of cells. -/
import Derived.Test.YtjlennpoaefllaaGreatDoorQ04
namespace Go.Proofs.YtjlennpoaefllaaGreatDoor.M

set_option maxRecDepth 100000 in
theorem kind_put {p : Pg} (hp : p.Ok) : kindP (pbytes p) = p.kind := by rw [kindP, read_pbytes hp]
set_option maxRecDepth 100000 in
theorem cells_put {p : Pg} (hp : p.Ok) : cellsP (pbytes p) = p.cells := by rw [cellsP, read_pbytes hp]
set_option maxRecDepth 100000 in
theorem fill_ok {p : Pg} (hp : p.Ok) : fillP p.no p.kind p.cells = pbytes p ∧ fillE p.no p.kind p.cells = 0 := by
  have h1 := hp.no
  have h2 := hp.room
  have hn : ¬ ((p.no : Int) < 0 ∨ 2147483647 < (p.no : Int) ∨ p.kind = 0) := fun c => by
    rcases c with c | c | c
    · omega
    · omega
    · exact hp.kind c
  rw [fillP, fillE, if_neg hn, if_neg hn, if_neg (by omega), if_neg (by omega), Int.toNat_natCast]
  exact ⟨rfl, rfl⟩
/-- A cell put in. -/
def put1 (cs : List (List UInt8)) (i : Nat) (b : List UInt8) : List (List UInt8) := cs.take i ++ [b] ++ cs.drop i
set_option maxRecDepth 100000 in
theorem put1_taken (cs : List (List UInt8)) (i : Nat) (b : List UInt8) : taken (put1 cs i b) = taken cs + (2 + b.length) := by
  rw [put1, taken_app, taken_app, taken_one, ← taken_take cs i]; omega
/-- The page with a cell more. -/
def Pg.put (p : Pg) (i : Nat) (b : List UInt8) : Pg := ⟨p.no, p.kind, put1 p.cells i b⟩
theorem Pg.Ok.put {p : Pg} (h : p.Ok) (i : Nat) {b : List UInt8} (hb : taken p.cells + (2 + b.length) ≤ 244) : (p.put i b).Ok := ⟨h.no, h.kind, by rw [Pg.put, put1_taken]; exact hb⟩
def made (cs : List (List UInt8)) : Pg := ⟨9, 3, cs⟩
end Go.Proofs.YtjlennpoaefllaaGreatDoor.M
