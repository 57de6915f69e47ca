/- Texts put together: DLose, DWorks, DSync, DCut, DUn, DOwn, FMath. -/
import Derived.Test.YtjlennpoaefllaaGreatDoorQ15
import Derived.Deep.DeepCutAuto
import Derived.Deep.LoopGhost
import Derived.Deep.Light
import Derived.Deep.QuietTactic
import Derived.BigQuiet
import Derived.Test.YtjlennpoaefllaaGreatDoorQ11
import Derived.Test.YtjlennpoaefllaaGreatDoorQ12
/- Lose. -/
namespace Go.Proofs.YtjlennpoaefllaaGreatDoor
open Go.RowKit

/-- Where the kept marks lie. -/
def KeptAt (w : World) (ka : Option Addr) (ks : List Bool) : Prop := ∀ j (h : j < ks.length), ∃ b o, ka = some ⟨b, o, none⟩ ∧ w.cell? ⟨b, o + j, none⟩ = some (.bool ks[j])

set_option maxRecDepth 100000 in
theorem IsDisk.mono {w : World} {B C p hb : Nat} {wv : Value} {D : dSt} (h : IsDisk w C p hb wv D) (hB : B ≤ C) : IsDisk w B p hb wv D := by
  refine ⟨h.box, h.held, ⟨h.wait.1, ?_⟩, h.good, h.goodW, by have := h.low.1; omega, by have := h.low.2; omega⟩
  rcases h.wait.2 with hn | ⟨g, cap, cur, e, hb', rest⟩
  · exact .inl hn
  · exact .inr ⟨g, cap, cur, e, by omega, rest⟩

end Go.Proofs.YtjlennpoaefllaaGreatDoor

/- works: the chapter's example. -/
namespace Go.Proofs.YtjlennpoaefllaaGreatDoor
open Go.RowKit

/-- What Read tells, in the caller's words. -/
def PReads (w : World) (bs : List UInt8) (e : Ending) (w' : World) : Prop := ∃ g cap, e = .returned (.tuple #[.slice (some ⟨g, 0, none⟩) 256 cap, .int .i64 0]) ∧ (∀ j b, bs[j]? = some b → w'.cell? ⟨g, j, none⟩ = some (.int .u8 (b.toNat : Int))) ∧ w.heap.size ≤ g ∧ g < w'.heap.size ∧ Adds w w'
set_option maxRecDepth 100000 in
theorem dPRead.reads {w : World} {bs : List UInt8} {e : Ending} {w' : World} (h : dPRead w bs e w') : PReads w bs e w' := by
  obtain ⟨v, rfl, hown, hv, hA⟩ := h
  rcases hown.2 with ⟨c, _⟩ | ⟨g, cap, cur, rfl, hg, hh, _⟩
  · exact absurd c hv
  · refine ⟨g, cap, rfl, fun j b hb => ?_, hg, (Array.getElem?_eq_some_iff.1 hh).1, hA⟩
    have hl : (S bs).length = 256 := hown.1
    have hj : j < bs.length := (List.getElem?_eq_some_iff.1 hb).1
    rw [length_S] at hl
    rw [hown.cellAt j (by omega), S_get, hb]; rfl

end Go.Proofs.YtjlennpoaefllaaGreatDoor

/- Sync. -/
namespace Go.Proofs.YtjlennpoaefllaaGreatDoor
open Go.RowKit

end Go.Proofs.YtjlennpoaefllaaGreatDoor

/- Cut, Steps, Size; Write where the power is off, or where it is refused. -/
namespace Go.Proofs.YtjlennpoaefllaaGreatDoor
open Go.RowKit

/-- The state behind a cut. -/
def dSt.cut (D : dSt) (n : Int) : dSt := { D with left := if D.left = 0 then 0 else n }
set_option maxRecDepth 100000 in
set_option maxHeartbeats 400000 in
theorem size_any (p : Nat) (n : Int) (w : World) (c0 : w.cell? ⟨p, 0, none⟩ = some (.int .i64 n)) (hn : 0 < n) :
    Calls Tryz.prog 34 #[.pointer (some ⟨p, 0, none⟩)] w fun e w' => e = .returned (.int .i64 n) ∧ w' = w := by
  have d1 : decide (0 < n) = true := by simpa using hn
  have m1 := made_any p n w c0
  rw [d1] at m1
  have M1 := hid m1
  clear m1 d1 hn
  go_enter Tryz.func34, Tryz.ntmps34
  go_wp2_with (go_at_call 76; refine M1.out.mono ?_; rintro e _ ⟨rfl, hw⟩; rw [hw])
  go_ret
  exact ⟨rfl, rfl⟩

end Go.Proofs.YtjlennpoaefllaaGreatDoor

/- Disks that are nil, or that no call made: Sync, Cut, Spoil, Size, Steps, Pending. -/
namespace Go.Proofs.YtjlennpoaefllaaGreatDoor
open Go.RowKit

end Go.Proofs.YtjlennpoaefllaaGreatDoor

/- A disk whose blocks have an owner: reads, writes, syncs by its state. -/
namespace Go.Proofs.YtjlennpoaefllaaGreatDoor
open Go.RowKit

/-- A disk, all of whose blocks are of O. -/
def IsDO (w : World) (O : Nat → Prop) (p : Nat) (D : dSt) : Prop := ∃ hb wv, IsDisk w 0 p hb wv D ∧ O p ∧ O hb ∧ ∀ k, wv.ownBlock = some k → O k
theorem IsDO.touch {w w' : World} {O T : Nat → Prop} {p : Nat} {D : dSt} (h : IsDO w O p D) (hT : Touch T w w') (hn : ∀ k, O k → ¬ T k) : IsDO w' O p D := by
  obtain ⟨hb, wv, hd, h1, h2, h3⟩ := h
  exact ⟨hb, wv, hd.kept hT (hn _ h1) (hn _ h2) (fun k hk => hn k (h3 k hk)), h1, h2, h3⟩
theorem IsDO.adds {w w' : World} {O : Nat → Prop} {p : Nat} {D : dSt} (h : IsDO w O p D) (hT : Adds w w') : IsDO w' O p D := h.touch hT (fun _ _ => id)
theorem IsDO.mono {w : World} {O O' : Nat → Prop} {p : Nat} {D : dSt} (h : IsDO w O p D) (hn : ∀ k, O k → O' k) : IsDO w O' p D := by
  obtain ⟨hb, wv, hd, h1, h2, h3⟩ := h
  exact ⟨hb, wv, hd, hn _ h1, hn _ h2, fun k hk => hn k (h3 k hk)⟩
/-- A disk's numbers are within bounds. -/
structure DOk (D : dSt) (k : Nat) : Prop where
  waits : D.W.length ≤ k
  steps0 : 0 ≤ D.steps
  steps1 : D.steps ≤ k
  left0 : -1 ≤ D.left
  left1 : D.left ≤ 9223372036854775807
  size : 0 < D.size
theorem DOk.mono {D : dSt} {k j : Nat} (h : DOk D k) (hj : k ≤ j) : DOk D j := ⟨Nat.le_trans h.waits hj, h.steps0, by have := h.steps1; omega, h.left0, h.left1, h.size⟩
theorem own_type {w : World} {B : Nat} {e : TypeId} {size : Nat} {v : Value} {n : Nat} {xs : List Value} (h : w.ownsRow B e size v n xs) {k : Nat} (hk : v.ownBlock = some k) : ∃ cur, w.heap[k]? = some (.cells cur e (0, 0)) := by
  rcases h.2 with ⟨rfl, _⟩ | ⟨g, cap, cur, rfl, hb', hgg, rest⟩
  · cases hk
  · obtain rfl : g = k := by simpa [Value.ownBlock] using hk
    exact ⟨cur, hgg⟩
theorem rangeOf {w : World} {g o : Nat} {bs : List UInt8} (h : At w (some ⟨g, o, none⟩) bs) : w.rangeAt g o (S bs) := by
  intro j v hv
  rw [S_get] at hv
  obtain ⟨c, hc, rfl⟩ := Option.map_eq_some_iff.1 hv
  obtain ⟨b, o', e, h1⟩ := h j c hc
  obtain ⟨rfl, rfl⟩ : g = b ∧ o = o' := by simpa using e
  exact h1
/-- A sector of the disk, read. -/
def PSec (w : World) (bs : List UInt8) (e : Ending) (w' : World) : Prop := ∃ g cap, e = .returned (.tuple #[.slice (some ⟨g, 0, none⟩) 256 cap, .int .i64 0]) ∧ Hid (At w' (some ⟨g, 0, none⟩) bs ∧ bs.length = 256 ∧ 256 ≤ cap ∧ w.heap.size ≤ g ∧ Adds w w')
theorem dread_any {w : World} {O : Nat → Prop} {p : Nat} {D : dSt} {n : Nat} (h : IsDO w O p D) (hk : DOk D n) (hn : n ≤ 900) (hon : D.left ≠ 0) (i : Int) (hi : 0 ≤ i ∧ i < D.size) : Calls Tryz.prog 153 #[Ptr p, .int .i64 i] w (PSec w (hasOf D.H D.W i)) := by
  obtain ⟨hb, wv, hd, h1, h2, h3⟩ := h
  have := hk.waits
  refine (read_ok 0 p hb wv D i w hd (by omega) hi hon).mono ?_
  rintro e w' ⟨v, rfl, hr, hv, hA⟩
  obtain ⟨g, cap, rfl, hg, hc⟩ := Own.some hr (by omega)
  exact ⟨g, cap, rfl, At.own hr, hasOf_len i hd.good D.W hd.goodW, hc, hg, hA⟩
theorem dread_off {w : World} {O : Nat → Prop} {p : Nat} {D : dSt} {n : Nat} (h : IsDO w O p D) (hk : DOk D n) (hon : D.left = 0) (i : Int) (hi : 0 ≤ i ∧ i < D.size) : Calls Tryz.prog 153 #[Ptr p, .int .i64 i] w (Tells (.tuple #[.slice none 0 0, .int .i64 10]) w) := by
  obtain ⟨hb, wv, hd, h1, h2, h3⟩ := h
  exact read_off p D.size i w (cellOf hd.box 0) (by rw [cellOf hd.box 4, hon]; rfl) hk.size hi
theorem dsize_any {w : World} {O : Nat → Prop} {p : Nat} {D : dSt} {n : Nat} (h : IsDO w O p D) (hk : DOk D n) : Calls Tryz.prog 34 #[Ptr p] w (Tells (.int .i64 D.size) w) := by
  obtain ⟨hb, wv, hd, h1, h2, h3⟩ := h
  exact size_any p D.size w (cellOf hd.box 0) hk.size
end Go.Proofs.YtjlennpoaefllaaGreatDoor

/- A pool by definition: its frames in a list, by their age, the oldest first. -/
namespace Go.Proofs.YtjlennpoaefllaaGreatDoor.F
open Go.RowKit

/-- A frame: the page's number, what it holds, what it was as a dirty one, whether it is fresh, whether it is, or was, dirty. -/
structure Fr where
  no : Int
  now : List UInt8
  was : List UInt8
  fresh : Bool
  dirty : Bool
/-- Clean 0, dirty 1, fresh 2. -/
def st (f : Fr) : Int := if f.fresh then 2 else if f.dirty then 1 else 0
def clean (f : Fr) : Bool := !f.fresh && !f.dirty
/-- A pool's state: where its pages begin, how many there are, how many frames, the frames. -/
structure Po where
  fr : Int
  ct : Int
  mo : Int
  L : List Fr
def at? (L : List Fr) (no : Int) : Option Fr := L.find? fun f => decide (f.no = no)
def sansF (L : List Fr) (no : Int) : List Fr := L.filter fun f => decide (f.no ≠ no)
/-- The oldest clean frame. -/
def old (L : List Fr) : Option Fr := L.find? clean
/-- Has room to be made for a page? -/
def need (s : Po) (no : Int) : Bool := (at? s.L no).isNone && decide (s.mo ≤ (s.L.length : Int))
def room (s : Po) (no : Int) : Bool := !need s no || (old s.L).isSome
/-- The frames, when room has been made. -/
def out (s : Po) (no : Int) : List Fr := if need s no then (match old s.L with
  | some f => sansF s.L f.no
  | none => s.L) else s.L
/-- A page is held in a frame, the youngest. -/
def held (s : Po) (no : Int) (f : Fr) : Po := { s with L := sansF (out s no) no ++ [f] }
/-- The numbers of the pages of some frames, rising. -/
def which (s : Po) (m : Fr → Bool) : List Int := rise ((s.L.filter m).map (·.no))
def isFresh (f : Fr) : Bool := f.fresh
def inPool (s : Po) (no : Int) : Bool := decide (0 ≤ no) && decide (no < s.ct)

/-- What was a dirty frame, of a page that is put: whether there was one, and its bytes. -/
def wasD (s : Po) (no : Int) : Bool := match at? s.L no with
  | some f => f.dirty
  | none => false
def wasB (s : Po) (no : Int) : List UInt8 := match at? s.L no with
  | some f => if f.fresh then f.was else if f.dirty then f.now else []
  | none => []
/-- Put: the answer, and the state behind it. -/
def putE (s : Po) (no : Int) (bs : List UInt8) : Nat := if inPool s no then (match M.readP bs with
  | none => 22
  | some p => if (p.no : Int) ≠ no then 23 else if room s no then 0 else 33) else 2
/-- The page that bytes are, with 0 in the last four. -/
def nw (bs : List UInt8) : List UInt8 := match M.readP bs with
  | some p => M.pbytes p
  | none => []
def putS (s : Po) (no : Int) (bs : List UInt8) : Po := if putE s no bs = 0 then held s no ⟨no, nw bs, wasB s no, true, wasD s no⟩ else s
/-- What a page is read as. -/
def rdE (s : Po) (D : dSt) (no : Int) : Nat := if room s no then (if D.left = 0 then 10 else M.openE (hasOf D.H D.W (s.fr + no)) no) else 33
def rdB (s : Po) (D : dSt) (no : Int) : List UInt8 := M.openP (hasOf D.H D.W (s.fr + no)) no
/-- Get: the answer, the bytes, the state behind it. -/
def getE (s : Po) (D : dSt) (no : Int) : Nat := if inPool s no then (if (at? s.L no).isSome then 0 else rdE s D no) else 2
def getF (s : Po) (D : dSt) (no : Int) : Fr := match at? s.L no with
  | some f => f
  | none => ⟨no, rdB s D no, [], false, false⟩
def getB (s : Po) (D : dSt) (no : Int) : List UInt8 := if getE s D no = 0 then (getF s D no).now else []
def getS (s : Po) (D : dSt) (no : Int) : Po := if getE s D no = 0 then held s no (getF s D no) else s
/-- Accept. -/
def acc (f : Fr) : Fr := if f.fresh then { f with was := [], fresh := false, dirty := true } else f
def accS (s : Po) : Po := { s with L := s.L.map acc }
/-- Drop. -/
def drp (f : Fr) : Fr := if f.fresh then { f with now := f.was, was := [], fresh := false } else f
def kept (f : Fr) : Bool := !f.fresh || f.dirty
def dropS (s : Po) : Po := { s with L := (s.L.filter kept).map drp }
end Go.Proofs.YtjlennpoaefllaaGreatDoor.F
