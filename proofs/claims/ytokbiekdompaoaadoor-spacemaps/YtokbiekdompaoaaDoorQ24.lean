/- A pool by definition: its frames in a list, by their age, the oldest first. -/
import Derived.Test.YtokbiekdompaoaaDoorQ15
import Derived.Test.YtokbiekdompaoaaDoorQ17
import Derived.Test.YtokbiekdompaoaaDoorQ23
namespace Go.Proofs.YtokbiekdompaoaaDoor.F
open Go.RowKit

/-- A frame: the page's number, what it holds, what it was as a dirty one, whether it is fresh, whether it is, or was, dirty. -/
structure Fr where
  no : Int
  now : List UInt8
  was : List UInt8
  fresh : Bool
  dirty : Bool
/-- Clean 0, dirty 1, fresh 2. -/
def st (f : Fr) : Int := if f.fresh then 2 else if f.dirty then 1 else 0
def clean (f : Fr) : Bool := !f.fresh && !f.dirty
/-- A pool's state: where its pages begin, how many there are, how many frames, the frames. -/
structure Po where
  fr : Int
  ct : Int
  mo : Int
  L : List Fr
def at? (L : List Fr) (no : Int) : Option Fr := L.find? fun f => decide (f.no = no)
def sansF (L : List Fr) (no : Int) : List Fr := L.filter fun f => decide (f.no ≠ no)
/-- The oldest clean frame. -/
def old (L : List Fr) : Option Fr := L.find? clean
/-- Has room to be made for a page? -/
def need (s : Po) (no : Int) : Bool := (at? s.L no).isNone && decide (s.mo ≤ (s.L.length : Int))
def room (s : Po) (no : Int) : Bool := !need s no || (old s.L).isSome
/-- The frames, when room has been made. -/
def out (s : Po) (no : Int) : List Fr := if need s no then (match old s.L with
  | some f => sansF s.L f.no
  | none => s.L) else s.L
/-- A page is held in a frame, the youngest. -/
def held (s : Po) (no : Int) (f : Fr) : Po := { s with L := sansF (out s no) no ++ [f] }
/-- The numbers of the pages of some frames, rising. -/
def which (s : Po) (m : Fr → Bool) : List Int := rise ((s.L.filter m).map (·.no))
def isFresh (f : Fr) : Bool := f.fresh
def isDirty (f : Fr) : Bool := f.dirty
def isHeld (_ : Fr) : Bool := true
def inPool (s : Po) (no : Int) : Bool := decide (0 ≤ no) && decide (no < s.ct)

/-- What was a dirty frame, of a page that is put: whether there was one, and its bytes. -/
def wasD (s : Po) (no : Int) : Bool := match at? s.L no with
  | some f => f.dirty
  | none => false
def wasB (s : Po) (no : Int) : List UInt8 := match at? s.L no with
  | some f => if f.fresh then f.was else if f.dirty then f.now else []
  | none => []
/-- Put: the answer, and the state behind it. -/
def putE (s : Po) (no : Int) (bs : List UInt8) : Nat := if inPool s no then (match M.readP bs with
  | none => 22
  | some p => if (p.no : Int) ≠ no then 23 else if room s no then 0 else 33) else 2
/-- The page that bytes are, with 0 in the last four. -/
def nw (bs : List UInt8) : List UInt8 := match M.readP bs with
  | some p => M.pbytes p
  | none => []
def putS (s : Po) (no : Int) (bs : List UInt8) : Po := if putE s no bs = 0 then held s no ⟨no, nw bs, wasB s no, true, wasD s no⟩ else s
/-- What a page is read as. -/
def rdE (s : Po) (D : dSt) (no : Int) : Nat := if room s no then (if D.left = 0 then 10 else M.openE (hasOf D.H D.W (s.fr + no)) no) else 33
def rdB (s : Po) (D : dSt) (no : Int) : List UInt8 := M.openP (hasOf D.H D.W (s.fr + no)) no
/-- Get: the answer, the bytes, the state behind it. -/
def getE (s : Po) (D : dSt) (no : Int) : Nat := if inPool s no then (if (at? s.L no).isSome then 0 else rdE s D no) else 2
def getF (s : Po) (D : dSt) (no : Int) : Fr := match at? s.L no with
  | some f => f
  | none => ⟨no, rdB s D no, [], false, false⟩
def getB (s : Po) (D : dSt) (no : Int) : List UInt8 := if getE s D no = 0 then (getF s D no).now else []
def getS (s : Po) (D : dSt) (no : Int) : Po := if getE s D no = 0 then held s no (getF s D no) else s
/-- Accept. -/
def acc (f : Fr) : Fr := if f.fresh then { f with was := [], fresh := false, dirty := true } else f
def accS (s : Po) : Po := { s with L := s.L.map acc }
/-- Drop. -/
def drp (f : Fr) : Fr := if f.fresh then { f with now := f.was, was := [], fresh := false } else f
def kept (f : Fr) : Bool := !f.fresh || f.dirty
def dropS (s : Po) : Po := { s with L := (s.L.filter kept).map drp }
/-- Flush: the answer, the disk, the state behind it. -/
def flD (s : Po) (no : Int) : List UInt8 := match at? s.L no with
  | some f => M.sealP f.now
  | none => []
end Go.Proofs.YtokbiekdompaoaaDoor.F
