/- Texts put together: VP0, VP1, VLat, VP2. -/
import Derived.Test.YtmmgfankbabfbaaDoorQ45
import Derived.Test.YtmmgfankbabfbaaDoorQ27
import Derived.Test.YtmmgfankbabfbaaDoorQ46
import Derived.Test.YtmmgfankbabfbaaDoorQ24
import Derived.Test.YtmmgfankbabfbaaDoorQ28
import Derived.Test.YtmmgfankbabfbaaDoorQ25
/- A master and its disk on both sides: the program's and the reference's. -/
namespace Go.Proofs.YtmmgfankbabfbaaDoor
open Go.RowKit
theorem Ml.touch {w0 w w' : World} {OM OD T : Nat → Prop} {m p : Nat} {s : U.MS} {D : dSt} (h : Ml w0 w OM OD m p s D) (hT : Touch T w w') (hn : ∀ k, T k → ¬ (OM k ∨ OD k) ∧ w0.heap.size ≤ k) : Ml w0 w' OM OD m p s D :=
  ⟨h.mas.touch hT (fun k q c => (hn k c).1 (.inl q)), h.disk.touch hT (fun k q c => (hn k c).1 (.inr q)), h.apart, h.low, fun k q => Nat.lt_of_lt_of_le (h.lt k q) hT.size, h.adds.then hT (fun k hk c => by have := (hn k c).2; omega)⟩
/-- A master l on the disk d, in the states L and D, the reference's q on r, in L' and D'; other blocks X, which are nobody's. -/
structure Mw (w0 w : World) (X : List (Nat × Obj)) (OL OD OQ OR : Nat → Prop) (l d q r : Nat) (L L' : U.MS) (D D' : dSt) : Prop where
  wl : Ml w0 w OL OD l d L D
  isq : IsRM w OQ q r L'
  ro : IsRO w OR r D'
  apq : ∀ k, OQ k → ¬ OR k
  ap : ∀ k, OL k ∨ OD k → ¬ (OQ k ∨ OR k)
  low : ∀ k, OQ k ∨ OR k → w0.heap.size ≤ k
  lt : ∀ k, OQ k ∨ OR k → k < w.heap.size
  oth : ∀ x ∈ X, w.heap[x.1]? = some x.2 ∧ ¬ ((OL x.1 ∨ OD x.1) ∨ OQ x.1 ∨ OR x.1)
def MwE (w0 w : World) (X : List (Nat × Obj)) (l d q r : Nat) (L L' : U.MS) (D D' : dSt) : Prop := ∃ OL OD OQ OR, Mw w0 w X OL OD OQ OR l d q r L L' D D'
/-- What a call leaves. -/
def PMw (w0 : World) (X : List (Nat × Obj)) (l d q r : Nat) (L L' : U.MS) (D D' : dSt) (v : Value) (e : Ending) (w' : World) : Prop := e = .returned v ∧ Hid (MwE w0 w' X l d q r L L' D D')
theorem Mw.olt {w0 w : World} {X : List (Nat × Obj)} {OL OD OQ OR : Nat → Prop} {l d q r : Nat} {L L' : U.MS} {D D' : dSt} (h : Mw w0 w X OL OD OQ OR l d q r L L' D D') {x : Nat × Obj} (hx : x ∈ X) : x.1 < w.heap.size := (Array.getElem?_eq_some_iff.1 (h.oth x hx).1).1
set_option maxRecDepth 100000 in
theorem Mw.adds {w0 w w' : World} {X : List (Nat × Obj)} {OL OD OQ OR : Nat → Prop} {l d q r : Nat} {L L' : U.MS} {D D' : dSt} (h : Mw w0 w X OL OD OQ OR l d q r L L' D D') (hA : Adds w w') : Mw w0 w' X OL OD OQ OR l d q r L L' D D' := by
  have hq := h.isq
  exact ⟨h.wl.add hA, hq.adds hA, h.ro.adds hA, h.apq, h.ap, h.low, fun k c => Nat.lt_of_lt_of_le (h.lt k c) hA.size, fun x hx => ⟨hA.at' (h.oth x hx).1 id, (h.oth x hx).2⟩⟩
set_option maxRecDepth 100000 in
theorem MwE.adds {w0 w w' : World} {X : List (Nat × Obj)} {l d q r : Nat} {L L' : U.MS} {D D' : dSt} (h : MwE w0 w X l d q r L L' D D') (hA : Adds w w') : MwE w0 w' X l d q r L L' D D' := by
  obtain ⟨OL, OD, OQ, OR, h⟩ := h
  exact ⟨OL, OD, OQ, OR, h.adds hA⟩
set_option maxRecDepth 100000 in
theorem MwE.base {w0 w : World} {X : List (Nat × Obj)} {l d q r : Nat} {L L' : U.MS} {D D' : dSt} (h : MwE w0 w X l d q r L L' D D') : Adds w0 w := by
  obtain ⟨OL, OD, OQ, OR, h⟩ := h
  exact h.wl.adds
set_option maxRecDepth 100000 in
theorem MwE.other {w0 w : World} {X : List (Nat × Obj)} {l d q r : Nat} {L L' : U.MS} {D D' : dSt} (h : MwE w0 w X l d q r L L' D D') (x : Nat × Obj) (hx : x ∈ X) : w.heap[x.1]? = some x.2 := by
  obtain ⟨OL, OD, OQ, OR, h⟩ := h
  exact (h.oth x hx).1
set_option maxRecDepth 100000 in
theorem MwE.fewer {w0 w : World} {X Y : List (Nat × Obj)} {l d q r : Nat} {L L' : U.MS} {D D' : dSt} (h : MwE w0 w X l d q r L L' D D') (hY : ∀ x ∈ Y, x ∈ X) : MwE w0 w Y l d q r L L' D D' := by
  obtain ⟨OL, OD, OQ, OR, h⟩ := h
  exact ⟨OL, OD, OQ, OR, h.wl, h.isq, h.ro, h.apq, h.ap, h.low, h.lt, fun x hx => h.oth x (hY x hx)⟩
set_option maxRecDepth 100000 in
/-- A block that was new a while ago is another one. -/
theorem MwE.more {w0 w w' : World} {X : List (Nat × Obj)} {l d q r : Nat} {L L' : U.MS} {D D' : dSt} (h : MwE w0 w X l d q r L L' D D') (hA : Adds w w') (g : Nat) (o : Obj) (hg : w'.heap[g]? = some o) (hn : w.heap.size ≤ g) : MwE w0 w' ((g, o) :: X) l d q r L L' D D' := by
  obtain ⟨OL, OD, OQ, OR, h⟩ := h
  have h' := h.adds hA
  refine ⟨OL, OD, OQ, OR, h'.wl, h'.isq, h'.ro, h'.apq, h'.ap, h'.low, h'.lt, fun x hx => ?_⟩
  rcases List.mem_cons.1 hx with rfl | hx
  · refine ⟨hg, fun c => ?_⟩
    rcases c with c | c
    · have := h.wl.lt g c; omega
    · have := h.lt g c; omega
  · exact h'.oth x hx
set_option maxRecDepth 100000 in
/-- What is nobody's turns. -/
theorem MwE.turn {w0 w w' : World} {X Y : List (Nat × Obj)} {l d q r : Nat} {L L' : U.MS} {D D' : dSt} (h : MwE w0 w X l d q r L L' D D') {T : Nat → Prop} (hT : Touch T w w') (hn : ∀ k, T k → (∃ x ∈ X, x.1 = k) ∧ w0.heap.size ≤ k) (hY : ∀ y ∈ Y, (∃ x ∈ X, x.1 = y.1) ∧ w'.heap[y.1]? = some y.2) : MwE w0 w' Y l d q r L L' D D' := by
  obtain ⟨OL, OD, OQ, OR, h⟩ := h
  have hq := h.isq
  have key : ∀ k, T k → ¬ ((OL k ∨ OD k) ∨ OQ k ∨ OR k) := fun k c => by
    obtain ⟨⟨x, hx, e⟩, _⟩ := hn k c
    rw [← e]
    exact (h.oth x hx).2
  refine ⟨OL, OD, OQ, OR, h.wl.touch hT (fun k c => ⟨fun c' => key k c (.inl c'), (hn k c).2⟩), hq.touch hT (fun k c c' => key k c' (.inr (.inl c))), h.ro.touch hT (fun k c c' => key k c' (.inr (.inr c))), h.apq, h.ap, h.low, fun k c => Nat.lt_of_lt_of_le (h.lt k c) hT.size, fun y hy => ?_⟩
  obtain ⟨⟨x, hx, e⟩, h2⟩ := hY y hy
  exact ⟨h2, by rw [← e]; exact (h.oth x hx).2⟩
set_option maxRecDepth 100000 in
/-- New memory turns. -/
theorem MwE.turnNew {w0 w w1 w2 : World} {X : List (Nat × Obj)} {l d q r : Nat} {L L' : U.MS} {D D' : dSt} (h : MwE w0 w X l d q r L L' D D') (hA : Adds w w1) (hT : Touch (fun k => w.heap.size ≤ k) w1 w2) : MwE w0 w2 X l d q r L L' D D' := by
  refine h.adds ?_
  exact hA.then hT (fun k hk c => by omega)
set_option maxRecDepth 100000 in
/-- The program's side has moved. -/
theorem Mw.prog {w0 w w' : World} {X : List (Nat × Obj)} {OL OD OQ OR : Nat → Prop} {l d q r : Nat} {L L' L2 : U.MS} {D D' D2 : dSt} {v : Value} {e : Ending} (h : Mw w0 w X OL OD OQ OR l d q r L L' D D') (hp : PMl w0 w OL OD l d L2 D2 v e w') : PMw w0 X l d q r L2 L' D2 D' v e w' := by
  obtain ⟨he, hh⟩ := hp
  obtain ⟨OL', OD', h1, h2, h3⟩ := hh.out
  have hq := h.isq
  have hz := h2.size
  have key : ∀ k, OL' k ∨ OD' k → (OL k ∨ OD k) ∨ w.heap.size ≤ k := h3
  refine ⟨he, OL', OD', OQ, OR, h1, hq.touch h2 (fun k c c' => h.ap k c' (.inl c)), h.ro.touch h2 (fun k c c' => h.ap k c' (.inr c)), h.apq, fun k c c' => ?_, h.low, fun k c => Nat.lt_of_lt_of_le (h.lt k c) hz, fun x hx => ?_⟩
  · rcases key k c with c | c
    · exact h.ap k c c'
    · have := h.lt k c'; omega
  · have hl := h.olt hx
    refine ⟨h2.at' (h.oth x hx).1 (fun c => (h.oth x hx).2 (.inl c)), fun c => ?_⟩
    rcases c with c | c
    · rcases key _ c with c | c
      · exact (h.oth x hx).2 (.inl c)
      · omega
    · exact (h.oth x hx).2 (.inr c)
set_option maxRecDepth 100000 in
/-- The reference's side has moved. -/
theorem Mw.refs {w0 w w' : World} {X : List (Nat × Obj)} {OL OD OQ OR OQ' OR' : Nat → Prop} {l d q r : Nat} {L L' L2 : U.MS} {D D' D2 : dSt} (h : Mw w0 w X OL OD OQ OR l d q r L L' D D') (hq : IsRM w' OQ' q r L2) (hr : IsRO w' OR' r D2) (ha : ∀ k, OQ' k → ¬ OR' k) (hT : Touch (fun k => OQ k ∨ OR k) w w') (hn : ∀ k, OQ' k ∨ OR' k → (OQ k ∨ OR k) ∨ (w.heap.size ≤ k ∧ k < w'.heap.size)) : Mw w0 w' X OL OD OQ' OR' l d q r L L2 D D2 := by
  have hz := hT.size
  have hz0 := h.wl.adds.size
  refine ⟨h.wl.touch hT (fun k c => ⟨fun c' => h.ap k c' c, h.low k c⟩), hq, hr, ha, fun k c c' => ?_, fun k c => ?_, fun k c => ?_, fun x hx => ?_⟩
  · rcases hn k c' with d1 | d1
    · exact h.ap k c d1
    · have := h.wl.lt k c; omega
  · rcases hn k c with d1 | d1
    · exact h.low k d1
    · omega
  · rcases hn k c with d1 | d1
    · have := h.lt k d1; omega
    · exact d1.2
  · have hl := h.olt hx
    refine ⟨hT.at' (h.oth x hx).1 (fun c => (h.oth x hx).2 (.inr c)), fun c => ?_⟩
    rcases c with c | c
    · exact (h.oth x hx).2 (.inl c)
    · rcases hn _ c with c | c
      · exact (h.oth x hx).2 (.inr c)
      · omega
set_option maxRecDepth 100000 in
theorem Mw.refc {w0 w w' : World} {X : List (Nat × Obj)} {OL OD OQ OR : Nat → Prop} {l d q r : Nat} {L L' L2 : U.MS} {D D' D2 : dSt} {z : Int} {e : Ending} (h : Mw w0 w X OL OD OQ OR l d q r L L' D D') (hp : PRSav w OQ OR q r L2 D2 z e w') : PMw w0 X l d q r L L2 D D2 (.int .i64 z) e w' := by
  obtain ⟨he, hh⟩ := hp
  obtain ⟨OQ', OR', h1, h2, h3, h4, h5⟩ := hh.out
  exact ⟨he, OL, OD, OQ', OR', h.refs h1 h2 h3 h4 h5⟩
set_option maxRecDepth 100000 in
theorem Mw.refd {w0 w w' : World} {X : List (Nat × Obj)} {OL OD OQ OR : Nat → Prop} {l d q r : Nat} {L L' : U.MS} {D D' : dSt} {x : Int × dSt} {e : Ending} (h : Mw w0 w X OL OD OQ OR l d q r L L' D D') (hp : PRo w OR r x e w') : PMw w0 X l d q r L L' D x.2 (.int .i64 x.1) e w' := by
  obtain ⟨he, hh⟩ := hp
  obtain ⟨OR', h1, h2, h3⟩ := hh.out
  have hq := h.isq
  have hT : Touch (fun k => OQ k ∨ OR k) w w' := h2.mono (fun _ _ c => .inr c)
  refine ⟨he, OL, OD, OQ, OR', h.refs (hq.touch h2 h.apq) h1 (fun k c c' => ?_) hT (fun k c => ?_)⟩
  · rcases h3 k c' with d1 | d1
    · exact h.apq k c d1
    · have := h.lt k (.inl c); omega
  · rcases c with c | c
    · exact .inl (.inl c)
    · rcases h3 k c with d1 | d1
      · exact .inl (.inr d1)
      · exact .inr d1
/-! ### The calls, each on its side -/
set_option maxRecDepth 100000 in
theorem mw_save {w0 w : World} {X : List (Nat × Obj)} {l d q r n0 : Nat} {L L' : U.MS} {D D' : dSt} (h : MwE w0 w X l d q r L L' D D') (hk : L.Ok) (hdk : DOk D n0) (hn0 : n0 ≤ 790) (hsz : (L.at_ : Int) + 2 ≤ D.size) (hs2 : D.size ≤ 4096) (hT : Tab w0)
    (a : Option Addr) (n cap : Nat) (ns : List Nat) (hn : ns.length = n) (hF : ∀ k ∈ ns, k < 18446744073709551616) (hA : NQ w0 (fun k => k < w0.heap.size) ⟨a, cap, ns⟩) (e : Int) :
    Calls Tryd.prog 16 #[Ptr l, .slice a n cap, .int .i64 e] w (PMw w0 X l d q r (savM L ns e D) L' (savD L ns e D) D' (.int .i64 (savE L ns e D))) := by
  obtain ⟨OL, OD, OQ, OR, h⟩ := h
  exact (ml_save h.wl hk hdk hn0 hsz hs2 hT a n cap ns hn hF (hA.adds h.wl.adds) (fun k c c' => by have := h.wl.low k (.inr c'); omega) e).mono (fun _ _ p => h.prog p)
set_option maxRecDepth 100000 in
theorem mq_save {w0 w : World} {X : List (Nat × Obj)} {l d q r n0 : Nat} {L L' : U.MS} {D D' : dSt} (h : MwE w0 w X l d q r L L' D D') (hdk : DOk D' n0) (hn0 : n0 ≤ 790) (hsz : (L'.at_ : Int) + 2 ≤ D'.size) (hs2 : D'.size ≤ 4096)
    (a : Option Addr) (n cap : Nat) (ns : List Nat) (hn : ns.length = n) (hF : ∀ k ∈ ns, k < 18446744073709551616) (hA : NQ w0 (fun k => k < w0.heap.size) ⟨a, cap, ns⟩) (e : Int) :
    Calls Tryd.prog 25 #[Ptr q, .slice a n cap, .int .i64 e] w (PMw w0 X l d q r L (savM L' ns e D') D (savD L' ns e D') (.int .i64 (savE L' ns e D'))) := by
  obtain ⟨OL, OD, OQ, OR, h⟩ := h
  exact (rsave_any h.isq h.ro h.apq h.lt hdk hn0 hsz hs2 a n cap ns hn hF (hA.adds h.wl.adds) (fun k c c' => by have := h.low k (.inr c'); omega) e).mono (fun _ _ p => h.refc p)
set_option maxRecDepth 100000 in
theorem mq_latest {w0 w : World} {X : List (Nat × Obj)} {l d q r : Nat} {L L' : U.MS} {D D' : dSt} (h : MwE w0 w X l d q r L L' D D') : ∃ O, Calls Tryd.prog 24 #[Ptr q] w (PRLat w O L'.lat) := by
  obtain ⟨OL, OD, OQ, OR, h⟩ := h
  obtain ⟨x, y, hq⟩ := h.isq
  exact ⟨_, rlatest_any hq⟩
set_option maxRecDepth 100000 in
theorem mq_which {w0 w : World} {X : List (Nat × Obj)} {l d q r : Nat} {L L' : U.MS} {D D' : dSt} (h : MwE w0 w X l d q r L L' D D') : Calls Tryd.prog 30 #[Ptr q] w (Adding (.int .i64 L'.which) w) := by
  obtain ⟨OL, OD, OQ, OR, h⟩ := h
  obtain ⟨x, y, hq⟩ := h.isq
  exact rwhich_any hq
set_option maxRecDepth 100000 in
theorem mw_slot {w0 w : World} {X : List (Nat × Obj)} {l d q r : Nat} {L L' : U.MS} {D D' : dSt} (h : MwE w0 w X l d q r L L' D D') : Calls Tryd.prog 15 #[Ptr l] w (Adding (.int .i64 L.which) w) := by
  obtain ⟨OL, OD, OQ, OR, h⟩ := h
  exact ml_slot h.wl
set_option maxRecDepth 100000 in
theorem mw_steps {w0 w : World} {X : List (Nat × Obj)} {l d q r : Nat} {L L' : U.MS} {D D' : dSt} (h : MwE w0 w X l d q r L L' D D') (hs : 0 < D.size) : Calls Tryd.prog 22 #[Ptr d] w (Tells (.int .i64 D.steps) w) := by
  obtain ⟨OL, OD, OQ, OR, h⟩ := h
  exact ml_steps h.wl hs
theorem PMl.of_do {w0 w w' : World} {OL OD : Nat → Prop} {l p : Nat} {L : U.MS} {D D2 : dSt} (h : Ml w0 w OL OD l p L D) (hT : Touch OD w w') (hd : IsDO w' OD p D2) (v : Value) : PMl w0 w OL OD l p L D2 v (.returned v) w' :=
  ⟨rfl, OL, OD, ⟨h.mas.touch hT (fun k q c => h.apart k q c), hd, h.apart, h.low, fun k q => Nat.lt_of_lt_of_le (h.lt k q) hT.size, h.adds.then hT (fun k hk c => by have := h.low k (.inr c); omega)⟩, hT.mono (fun k _ c => .inr c), fun _ c => .inl c⟩
set_option maxRecDepth 100000 in
theorem mw_cut {w0 w : World} {X : List (Nat × Obj)} {l d q r : Nat} {L L' : U.MS} {D D' : dSt} (h : MwE w0 w X l d q r L L' D D') (hs : 0 < D.size) (n : Int) : Calls Tryd.prog 18 #[Ptr d, .int .i64 n] w (PMw w0 X l d q r L L' (cutD D n) D' (.int .i64 (cutE n))) := by
  obtain ⟨OL, OD, OQ, OR, h⟩ := h
  obtain ⟨hb, wv, hd, h1, h2, h3⟩ := h.wl.disk
  by_cases hn : 0 ≤ n
  · rw [cutD, cutE, if_pos hn, if_pos hn]
    refine (cut_ok 0 d hb wv D n w hd hs hn).mono ?_
    rintro e w' ⟨rfl, hd', hT⟩
    exact h.prog (PMl.of_do h.wl (hT.mono (fun k _ c => by subst c; exact h1)) ⟨hb, wv, hd', h1, h2, h3⟩ _)
  · rw [cutD, cutE, if_neg hn, if_neg hn]
    refine (cut_bad d D.size n w (cellOf hd.box 0) hs (by omega)).mono ?_
    rintro e w' ⟨rfl, hw⟩
    rw [hw]
    exact h.prog (PMl.of_do h.wl (Touch.refl _ _) h.wl.disk _)
set_option maxRecDepth 100000 in
theorem mq_cut {w0 w : World} {X : List (Nat × Obj)} {l d q r : Nat} {L L' : U.MS} {D D' : dSt} (h : MwE w0 w X l d q r L L' D D') (n : Int) : Calls Tryd.prog 26 #[Ptr r, .int .i64 n] w (PMw w0 X l d q r L L' D (cutD D' n) (.int .i64 (cutE n))) := by
  obtain ⟨OL, OD, OQ, OR, h⟩ := h
  exact (ro_cut h.ro n).mono (fun _ _ p => h.refd p)
set_option maxRecDepth 100000 in
theorem mw_spoil {w0 w : World} {X : List (Nat × Obj)} {l d q r n0 : Nat} {L L' : U.MS} {D D' : dSt} (h : MwE w0 w X l d q r L L' D D') (hk : DOk D n0) (hn : n0 ≤ 900) (i a : Int) (b : UInt8) : Calls Tryd.prog 28 #[Ptr d, .int .i64 i, .int .i64 a, .int .u8 (b.toNat : Int)] w (PMw w0 X l d q r L L' (spoilD D i a b) D' (.int .i64 (spoilE D i a))) := by
  obtain ⟨OL, OD, OQ, OR, h⟩ := h
  obtain ⟨hb, wv, hd, h1, h2, h3⟩ := h.wl.disk
  by_cases hi : 0 ≤ i ∧ i < D.size ∧ 0 ≤ a ∧ a < 256
  · rw [spoilE, spoilD, if_pos hi, if_pos hi]
    obtain ⟨m, rfl⟩ : ∃ m : Nat, i = (m : Int) := ⟨i.toNat, by omega⟩
    obtain ⟨c, rfl⟩ : ∃ c : Nat, a = (c : Int) := ⟨a.toNat, by omega⟩
    have := hk.waits
    refine (spoil_ok 0 d hb wv D m c b w hd (by omega) hi.2.1 (by omega)).mono ?_
    rintro e w' ⟨rfl, hd', hT⟩
    exact h.prog (PMl.of_do h.wl (hT.mono (fun k _ c => by rcases c with rfl | c; exact h2; exact h3 k c)) ⟨hb, wv, hd', h1, h2, h3⟩ _)
  · rw [spoilE, spoilD, if_neg hi, if_neg hi]
    refine (spoil_bad d D.size i a (b.toNat : Int) w (cellOf hd.box 0) hk.size hi).mono ?_
    rintro e w' ⟨rfl, hw⟩
    rw [hw]
    exact h.prog (PMl.of_do h.wl (Touch.refl _ _) h.wl.disk _)
set_option maxRecDepth 100000 in
theorem mq_spoil {w0 w : World} {X : List (Nat × Obj)} {l d q r n0 : Nat} {L L' : U.MS} {D D' : dSt} (h : MwE w0 w X l d q r L L' D D') (hk : DOk D' n0) (hn : n0 ≤ 900) (i a : Int) (b : UInt8) : Calls Tryd.prog 29 #[Ptr r, .int .i64 i, .int .i64 a, .int .u8 (b.toNat : Int)] w (PMw w0 X l d q r L L' D (spoilD D' i a b) (.int .i64 (spoilE D' i a))) := by
  obtain ⟨OL, OD, OQ, OR, h⟩ := h
  exact (ro_spoil h.ro hk hn i a b).mono (fun _ _ p => h.refd p)
end Go.Proofs.YtmmgfankbabfbaaDoor

/- A pair of masters is opened. -/
namespace Go.Proofs.YtmmgfankbabfbaaDoor
open Go.RowKit
/-- Both disks, without masters. -/
structure Pd (w0 w : World) (X : List (Nat × Obj)) (OD OR : Nat → Prop) (d r : Nat) (D D' : dSt) : Prop where
  dk : IsDO w OD d D
  ro : IsRO w OR r D'
  ap : ∀ k, OD k → ¬ OR k
  low : ∀ k, OD k ∨ OR k → w0.heap.size ≤ k
  lt : ∀ k, OD k ∨ OR k → k < w.heap.size
  base : Adds w0 w
  oth : ∀ x ∈ X, w.heap[x.1]? = some x.2 ∧ ¬ (OD x.1 ∨ OR x.1)
def PdE (w0 w : World) (X : List (Nat × Obj)) (d r : Nat) (D D' : dSt) : Prop := ∃ OD OR, Pd w0 w X OD OR d r D D'
set_option maxRecDepth 100000 in
theorem MwE.disks {w0 w : World} {X : List (Nat × Obj)} {l d q r : Nat} {L L' : U.MS} {D D' : dSt} (h : MwE w0 w X l d q r L L' D D') : PdE w0 w X d r D D' := by
  obtain ⟨OL, OD, OQ, OR, h⟩ := h
  refine ⟨OD, OR, h.wl.disk, h.ro, fun k c c' => h.ap k (.inr c) (.inr c'), fun k c => ?_, fun k c => ?_, h.wl.adds, fun x hx => ⟨(h.oth x hx).1, fun c => (h.oth x hx).2 ?_⟩⟩
  · rcases c with c | c
    · exact h.wl.low k (.inr c)
    · exact h.low k (.inr c)
  · rcases c with c | c
    · exact h.wl.lt k (.inr c)
    · exact h.lt k (.inr c)
  · rcases c with c | c
    · exact .inl (.inr c)
    · exact .inr (.inr c)
theorem Pd.adds {w0 w w' : World} {X : List (Nat × Obj)} {OD OR : Nat → Prop} {d r : Nat} {D D' : dSt} (h : Pd w0 w X OD OR d r D D') (hA : Adds w w') : Pd w0 w' X OD OR d r D D' :=
  ⟨h.dk.adds hA, h.ro.adds hA, h.ap, h.low, fun k c => Nat.lt_of_lt_of_le (h.lt k c) hA.size, h.base.trans hA, fun x hx => ⟨hA.at' (h.oth x hx).1 id, (h.oth x hx).2⟩⟩
set_option maxRecDepth 100000 in
theorem PdE.adds {w0 w w' : World} {X : List (Nat × Obj)} {d r : Nat} {D D' : dSt} (h : PdE w0 w X d r D D') (hA : Adds w w') : PdE w0 w' X d r D D' := by
  obtain ⟨OD, OR, h⟩ := h
  exact ⟨OD, OR, h.adds hA⟩
set_option maxRecDepth 100000 in
/-- Masters on both disks. -/
theorem Pd.mas {w0 w w1 w2 : World} {X : List (Nat × Obj)} {OD OR : Nat → Prop} {l d q r : Nat} {L L' : U.MS} {D D' : dSt} (h : Pd w0 w X OD OR d r D D') (h1 : IsMas w1 (fun k => w.heap.size ≤ k ∧ k < w1.heap.size) l d L ∧ Adds w w1) (h2 : IsRM w2 (fun k => w1.heap.size ≤ k ∧ k < w2.heap.size) q r L' ∧ Adds w1 w2) : MwE w0 w2 X l d q r L L' D D' := by
  obtain ⟨hq, hA2⟩ := h2
  have z1 := h1.2.size
  have z2 := hA2.size
  have z0 := h.base.size
  have h' := h.adds (h1.2.trans hA2)
  refine ⟨_, OD, _, OR, ⟨h1.1.adds hA2, h'.dk, fun k c c' => ?_, fun k c => ?_, fun k c => ?_, h'.base⟩, hq, h'.ro, fun k c c' => ?_, fun k c c' => ?_, fun k c => ?_, fun k c => ?_, fun x hx => ⟨(h'.oth x hx).1, fun c => ?_⟩⟩
  · have := h.lt k (.inl c'); omega
  · rcases c with c | c
    · omega
    · exact h.low k (.inl c)
  · rcases c with c | c
    · omega
    · have := h.lt k (.inl c); omega
  · have := h.lt k (.inr c'); omega
  · rcases c with c | c <;> rcases c' with c' | c'
    · omega
    · have := h.lt k (.inr c'); omega
    · have := h.lt k (.inl c); omega
    · exact h.ap k c c'
  · rcases c with c | c
    · omega
    · exact h.low k (.inr c)
  · rcases c with c | c
    · exact c.2
    · have := h.lt k (.inr c); omega
  · have hx1 := (Array.getElem?_eq_some_iff.1 (h.oth x hx).1).1
    have hx2 := (h.oth x hx).2
    rcases c with (c | c) | c | c
    · omega
    · exact hx2 (.inl c)
    · omega
    · exact hx2 (.inr c)
/-- The pair's box. -/
abbrev PB10 (d r : Nat) (vl vq : Value) : Obj := .cells #[Ptr d, Ptr r, vl, vq] 35 (0, 0)
def op10 (D : dSt) (at_ : Int) : Prop := ¬ (at_ < 0 ∨ D.size - 2 < at_)
/-- What a pair's open leaves. -/
def PO10 (w0 w : World) (X : List (Nat × Obj)) (pp d r : Nat) (D : dSt) (at_ : Int) (e : Ending) (w' : World) : Prop := e = .returned (.bool true) ∧ Hid ((¬ op10 D at_ ∧ Adds w w') ∨ (op10 D at_ ∧ ∃ l q, MwE w0 w' ((pp, PB10 d r (Ptr l) (Ptr q)) :: X) l d q r (msAt D at_.toNat) (msAt D at_.toNat) D D))
set_option maxRecDepth 100000 in
theorem eq_mas_none (w : World) : (binOp .eql 32 (.pointer none) (.pointer none)).run Tryd.prog w = .ok (.bool true) w := by kernel_rfl
set_option maxRecDepth 100000 in
theorem eq_mas_some (l : Nat) (w : World) : (binOp .eql 32 (Ptr l) (.pointer none)).run Tryd.prog w = .ok (.bool false) w := by kernel_rfl
set_option maxRecDepth 100000 in
set_option maxHeartbeats 2000000 in
theorem p10_open {w0 w : World} {X : List (Nat × Obj)} {pp d r n0 : Nat} {vl vq : Value} {D : dSt} (h : PdE w0 w ((pp, PB10 d r vl vq) :: X) d r D D) (hpp : w0.heap.size ≤ pp) (hX : ∀ x ∈ X, x.1 ≠ pp) (hk : DOk D n0) (hn0 : n0 ≤ 900) (hsz : D.size ≤ 4096) (hon : D.left ≠ 0) (hT : Tab w0) (at_ : Int) :
    Calls Tryd.prog 10 #[Ptr pp, .int .i64 at_] w (PO10 w0 w X pp d r D at_) := by
  obtain ⟨OD, OR, h⟩ := h
  have hb : w.heap[pp]? = some (PB10 d r vl vq) := (h.oth _ List.mem_cons_self).1
  have c0 : w.cell? ⟨pp, 0, none⟩ = some (Ptr d) := by have c := cellOf hb 0; simpa using c
  have c1 : w.cell? ⟨pp, 1, none⟩ = some (Ptr r) := by have c := cellOf hb 1; simpa using c
  have hs0 := hk.size
  have hep := eq_mas_some
  have hen := eq_mas_none
  by_cases hbad : at_ < 0 ∨ D.size - 2 < at_
  · have HA := hid (mopen_bad h.dk hk at_ hsz hbad)
    have HB := hid (fun w1 (hA : Adds w w1) => ropen10_bad (h.ro.adds hA) at_ hbad)
    have HN := hid (show ¬ op10 D at_ from fun c => c hbad)
    clear hbad h hb
    go_enter Tryd.func10, Tryd.ntmps10
    go_wp2_with (first
      | (go_at_call 13; refine HA.out.mono ?_; rintro e w1 ⟨rfl, hA1⟩; have HA1 := hid hA1; have c11 : w1.cell? ⟨pp, 1, none⟩ = some (Ptr r) := below_adds hA1 c1; clear hA1)
      | (go_at_call 23; refine (HB.out w1 HA1.out).mono ?_; rintro e w2 ⟨rfl, hA2⟩; have HA2 := hid hA2; clear hA2))
    go_ret
    exact ⟨rfl, .inl ⟨HN.out, HA1.out.trans HA2.out⟩⟩
  · obtain ⟨a, rfl⟩ : ∃ a : Nat, at_ = (a : Int) := ⟨at_.toNat, by omega⟩
    have HA := hid (mopen_ok h.dk hk hn0 (hT.adds h.base) a (by omega) hsz hon)
    have HB := hid (fun w1 (hA : Adds w w1) => ropen10_ok (h.ro.adds hA) hk hn0 a (by omega) hon)
    have HY := hid (show op10 D a from hbad)
    have HP := hid h
    have HBx := hid hb
    have HPP := hid (And.intro hpp hX)
    clear hbad h hb hon hpp hX
    go_enter Tryd.func10, Tryd.ntmps10
    go_wp2_with (first
      | (go_at_call 13; refine HA.out.mono ?_; rintro e w1 ⟨l, rfl, H1⟩; have c11 : w1.cell? ⟨pp, 1, none⟩ = some (Ptr r) := below_adds H1.out.2 c1)
      | (go_at_call 23; refine (HB.out w1 H1.out.2).mono ?_; rintro e w2 ⟨q, rfl, H2⟩
         have HW := hid (HP.out.mas H1.out H2.out)
         have HB2 := hid (HW.out.other _ List.mem_cons_self)
         have c22 : w2.cell? ⟨pp, 2, none⟩ = some vl := by have c := cellOf HB2.out 2; simpa using c
         have c32 : w2.cell? ⟨pp, 3, none⟩ = some vq := by have c := cellOf HB2.out 3; simpa using c
         have f22 : w2.frozen? ⟨pp, 2, none⟩ = false := frozen_of_row w2 pp 2 _ 35 HB2.out
         have f32 : w2.frozen? ⟨pp, 3, none⟩ = false := frozen_of_row w2 pp 3 _ 35 HB2.out))
    go_ret
    refine ⟨rfl, .inr ⟨HY.out, l, q, ?_⟩⟩
    have hT2 : Touch (fun k => k = pp) w2 ((w2.setCell ⟨pp, 2, none⟩ (Ptr l)).setCell ⟨pp, 3, none⟩ (Ptr q)) := Touch.setCell (T := fun k => k = pp) (Touch.setCell (T := fun k => k = pp) (Touch.refl _ w2) (p := ⟨pp, 2, none⟩) (fun _ => rfl) _) (p := ⟨pp, 3, none⟩) (fun _ => rfl) _
    refine HW.out.turn hT2 (fun k c => ⟨⟨_, List.mem_cons_self, c.symm⟩, by rw [c]; exact HPP.out.1⟩) (fun y hy => ?_)
    rcases List.mem_cons.1 hy with rfl | hy
    · refine ⟨⟨_, List.mem_cons_self, rfl⟩, ?_⟩
      exact heap_setCell_same _ pp 3 _ 35 _ (heap_setCell_same w2 pp 2 _ 35 _ HB2.out)
    · exact ⟨⟨y, List.mem_cons_of_mem _ hy, rfl⟩, hT2.at' (HW.out.other y (List.mem_cons_of_mem _ hy)) (HPP.out.2 y hy)⟩
end Go.Proofs.YtmmgfankbabfbaaDoor

/- Latest, with what is told as a row of its own. -/
namespace Go.Proofs.YtmmgfankbabfbaaDoor
open Go.RowKit
/-- Numbers in new memory. -/
def PNumU (w : World) (ns : List Nat) (e : Ending) (w' : World) : Prop := ∃ a cap, e = .returned (.slice a ns.length cap) ∧ Hid (w'.ownsRow 0 67 1 (.slice a ns.length cap) ns.length (N8 ns) ∧ (∀ k, (Value.slice a ns.length cap).ownBlock = some k → w.heap.size ≤ k) ∧ Adds w w')
set_option maxRecDepth 100000 in
theorem ucloneU_nil (w : World) : Calls Tryd.prog 35 #[.slice none 0 0] w (PNumU w []) := by
  have hq := fun w => Lib.run_eql_slice_nil (P := Tryd.prog) w 38 67 none 0 0 0 0 Tryd.underlying38
  go_enter Tryd.func35, Tryd.ntmps35
  go_wp2_with fail
  go_ret
  exact ⟨none, 0, rfl, World.ownsRow_nil _ _ _ _, fun _ hk => (by cases hk), Touch.refl _ _⟩
set_option maxRecDepth 100000 in
set_option maxHeartbeats 1000000 in
theorem ucloneU_some {Q : Nat → Prop} (b o cap m : Nat) (ns : List Nat) (hm : ns.length = m) (w : World) (hl : m ≤ 1000000) (hA : CQ w Q (some ⟨b, o, none⟩) (N8 ns)) : Calls Tryd.prog 35 #[.slice (some ⟨b, o, none⟩) m cap] w (PNumU w ns) := by
  have hq := fun w => Lib.run_eql_slice_nil (P := Tryd.prog) w 38 67 (some ⟨b, o, none⟩) m cap 0 0 Tryd.underlying38
  have HA := hid (hA.adds ((Touch.refl _ w).alloc (.cells #[] 67)))
  have HR := hid (show (w.alloc (.cells #[] 67)).ownsRow 0 67 1 (.slice (some ⟨w.heap.size, 0, none⟩) 0 0) 0 [] from World.ownsRow_lit (base := 0) (e := 67) (size := 1) w #[] 0 (Nat.zero_le _) (by decide) rfl)
  clear hA
  go_enter Tryd.func35, Tryd.ntmps35
  go_wp2_with (at_builtin; refine append_um rfl _ _ rfl (.slice (some ⟨w.heap.size, 0, none⟩) 0 0) 0 [] rfl HR.out (some ⟨b, o, none⟩) m cap ns hm rfl (fun e => (by cases e)) HA.out (by omega) ?_; intro v' w3 G3; have HG := hid G3; clear G3)
  go_ret
  have hG := HG.out
  obtain ⟨a, c, e, _, _, _⟩ := own_cq hG.1
  have hlo : ∀ k, v'.ownBlock = some k → w.heap.size ≤ k := hG.lt (by simp) (fun k hk => by cases hk; exact Nat.le_refl _)
  have q := hG.1
  rw [e, Nat.zero_add, List.nil_append] at q
  rw [e, Nat.zero_add] at hlo
  refine ⟨a, c, by rw [e, hm, Nat.zero_add]; rfl, by rw [hm]; exact q, by rw [hm]; exact hlo, ?_⟩
  exact ((Touch.refl _ w).alloc _).then hG.touch (fun k hk c => by cases c; exact absurd hk (Nat.lt_irrefl _))
set_option maxRecDepth 100000 in
theorem ucloneU_any {Q : Nat → Prop} (a : Option Addr) (cap m : Nat) (ns : List Nat) (hm : ns.length = m) (w : World) (hl : m ≤ 1000000) (hA : NQ w Q ⟨a, cap, ns⟩) : Calls Tryd.prog 35 #[.slice a m cap] w (PNumU w ns) := by
  cases a with
  | none =>
    obtain rfl : cap = 0 := hA.non rfl
    obtain rfl : ns = [] := by
      cases ns with
      | nil => rfl
      | cons u l => obtain ⟨b, o', e, _⟩ := hA.at_ 0 (U8 u) rfl; cases e
    obtain rfl : m = 0 := by rw [← hm]; rfl
    exact ucloneU_nil w
  | some ad =>
    by_cases h0 : ns = []
    · subst h0
      obtain rfl : m = 0 := by rw [← hm]; rfl
      have hq := fun w => Lib.run_eql_slice_nil (P := Tryd.prog) w 38 67 (some ad) 0 cap 0 0 Tryd.underlying38
      have HR := hid (show (w.alloc (.cells #[] 67)).ownsRow 0 67 1 (.slice (some ⟨w.heap.size, 0, none⟩) 0 0) 0 [] from World.ownsRow_lit (base := 0) (e := 67) (size := 1) w #[] 0 (Nat.zero_le _) (by decide) rfl)
      clear hA hm
      go_enter Tryd.func35, Tryd.ntmps35
      go_wp2_with (at_builtin; refine append_um rfl _ _ rfl (.slice (some ⟨w.heap.size, 0, none⟩) 0 0) 0 [] rfl HR.out (some ad) 0 cap [] rfl rfl (fun e => (by cases e)) (CQ.nil _ (fun _ => True) _) (by omega) ?_; intro v' w3 G3; have HG := hid G3; clear G3)
      go_ret
      have hG := HG.out
      obtain ⟨a, c, e, _, _, _⟩ := own_cq hG.1
      have hlo : ∀ k, v'.ownBlock = some k → w.heap.size ≤ k := hG.lt (by simp) (fun k hk => by cases hk; exact Nat.le_refl _)
      have q := hG.1
      rw [e] at q hlo
      refine ⟨a, c, by rw [e]; rfl, q, hlo, ?_⟩
      exact ((Touch.refl _ w).alloc _).then hG.touch (fun k hk c => by cases c; exact absurd hk (Nat.lt_irrefl _))
    · obtain ⟨u, l, rfl⟩ := List.exists_cons_of_ne_nil h0
      obtain ⟨b, o', e, _⟩ := hA.at_ 0 (U8 u) rfl
      obtain rfl : ad = ⟨b, o', none⟩ := by simpa using e
      exact ucloneU_some b o' cap m _ hm w hl hA.at_
/-! ### Latest -/
def PLatU (w : World) (s : U.Sl) (e : Ending) (w' : World) : Prop := ∃ a cap, e = .returned (.tuple #[.slice a s.fs.length cap, .int .i64 (s.ep : Int), .bool (decide (0 < s.ep))]) ∧ Hid (w'.ownsRow 0 67 1 (.slice a s.fs.length cap) s.fs.length (N8 s.fs) ∧ (∀ k, (Value.slice a s.fs.length cap).ownBlock = some k → w.heap.size ≤ k) ∧ Adds w w')
set_option maxRecDepth 100000 in
set_option maxHeartbeats 1000000 in
theorem mlatestU_any {w : World} {O : Nat → Prop} {m : Nat} {pv : Value} {x y : NPart} {s : U.MS} (h : IsMasV w O m pv x y s) (hk : s.Ok) : Calls Tryd.prog 14 #[Ptr m] w (PLatU w s.lat) := by
  have H := hid (mslot_any h)
  by_cases h0 : s.a.ep = 0 ∧ s.b.ep = 0
  · have e1 : s.which = -1 := by rw [U.MS.which, if_pos h0]
    have e2 : s.lat = ⟨0, []⟩ := by rw [U.MS.lat, if_pos h0]
    rw [e1] at H
    rw [e2]
    clear h h0 e1 e2 hk
    go_enter Tryd.func14, Tryd.ntmps14
    go_wp2_with (first | (go_at_call 15; refine H.out.mono ?_; rintro e w0 ⟨rfl, hA0⟩; have A0 := hid hA0; clear hA0))
    go_ret3
    exact ⟨none, 0, rfl, World.ownsRow_nil _ _ _ _, fun _ hk => (by cases hk), A0.out⟩
  · by_cases h1 : s.a.ep < s.b.ep
    · have e1 : s.which = 1 := by rw [U.MS.which, if_neg h0, if_pos h1]
      have e2 : s.lat = s.b := by rw [U.MS.lat, if_neg h0, if_pos h1]
      rw [e1] at H
      rw [e2]
      have hp : decide (0 < s.b.ep) = true := by simp; omega
      have HC := hid (fun w' (hA : Adds w w') => ucloneU_any y.a y.cap s.b.fs.length s.b.fs rfl w' (by have := hk.b.fit.len; omega) (by have q := h.qy.adds hA; rw [show y = ⟨y.a, y.cap, s.b.fs⟩ by rw [← h.ys]] at q; exact q))
      have H4 := hid (fun w' (hA : Adds w w') => show w'.cell? ⟨m, 4, none⟩ = some (.int .i64 (s.b.ep : Int)) from below_adds hA (cellOf h.box 4))
      have c5 : w.cell? ⟨m, 5, none⟩ = some (.slice y.a s.b.fs.length y.cap) := cellOf h.box 5
      have H5 := hid (fun w' (hA : Adds w w') => show w'.cell? ⟨m, 5, none⟩ = some (.slice y.a s.b.fs.length y.cap) from below_adds hA c5)
      have HP := hid hp
      generalize hn : s.b.fs.length = n at *
      clear h h0 h1 e1 e2 hp
      go_enter Tryd.func14, Tryd.ntmps14
      go_upto_region 4 with (first | (go_at_call 15; refine H.out.mono ?_; rintro e w0 ⟨rfl, hA0⟩; have A0 := hid hA0; have d4 := H4.out w0 hA0; have d5 := H5.out w0 hA0; clear hA0))
      go_region_with (go_at_call 35; refine (HC.out _ (by first | exact A0.out.drew | exact A0.out)).mono ?_; rintro e w1 ⟨a1, cap1, rfl, H1⟩; have A1 := hid (A0.out.drew.trans H1.out.2.2); have d41 := H4.out w1 A1.out)
      all_goals
        go_wp2_with fail
        go_ret3
        exact ⟨a1, cap1, by rw [HP.out, hn]; rfl, H1.out.1, fun k q => Nat.le_trans A0.out.size (H1.out.2.1 k q), A1.out⟩
    · have e1 : s.which = 0 := by rw [U.MS.which, if_neg h0, if_neg h1]
      have e2 : s.lat = s.a := by rw [U.MS.lat, if_neg h0, if_neg h1]
      rw [e1] at H
      rw [e2]
      have hp : decide (0 < s.a.ep) = true := by simp; omega
      have HC := hid (fun w' (hA : Adds w w') => ucloneU_any x.a x.cap s.a.fs.length s.a.fs rfl w' (by have := hk.a.fit.len; omega) (by have q := h.qx.adds hA; rw [show x = ⟨x.a, x.cap, s.a.fs⟩ by rw [← h.xs]] at q; exact q))
      have H2 := hid (fun w' (hA : Adds w w') => show w'.cell? ⟨m, 2, none⟩ = some (.int .i64 (s.a.ep : Int)) from below_adds hA (cellOf h.box 2))
      have c3 : w.cell? ⟨m, 3, none⟩ = some (.slice x.a s.a.fs.length x.cap) := cellOf h.box 3
      have H3 := hid (fun w' (hA : Adds w w') => show w'.cell? ⟨m, 3, none⟩ = some (.slice x.a s.a.fs.length x.cap) from below_adds hA c3)
      have HP := hid hp
      generalize hn : s.a.fs.length = n at *
      clear h h0 h1 e1 e2 hp
      go_enter Tryd.func14, Tryd.ntmps14
      go_upto_region 4 with (first | (go_at_call 15; refine H.out.mono ?_; rintro e w0 ⟨rfl, hA0⟩; have A0 := hid hA0; have d2 := H2.out w0 hA0; have d3 := H3.out w0 hA0; clear hA0))
      go_region_with (go_at_call 35; refine (HC.out _ (by first | exact A0.out.drew | exact A0.out)).mono ?_; rintro e w1 ⟨a1, cap1, rfl, H1⟩; have A1 := hid (A0.out.drew.trans H1.out.2.2); have d21 := H2.out w1 A1.out)
      all_goals
        go_wp2_with fail
        go_ret3
        exact ⟨a1, cap1, by rw [HP.out, hn]; rfl, H1.out.1, fun k q => Nat.le_trans A0.out.size (H1.out.2.1 k q), A1.out⟩
end Go.Proofs.YtmmgfankbabfbaaDoor

/- A pair of masters tells the same. -/
namespace Go.Proofs.YtmmgfankbabfbaaDoor
open Go.RowKit
/-- Numbers turn, all else stays. -/
def TrnU (B : Nat) (w wr : World) : Prop := Touch (fun k => B ≤ k) w wr ∧ (∀ a z, w.cell? a = some (.int .u64 z) → ∃ z', wr.cell? a = some (.int .u64 z')) ∧ ∀ a, wr.frozen? a = w.frozen? a
theorem TrnU.refl (B : Nat) (w : World) : TrnU B w w := ⟨Touch.refl _ _, fun _ z h => ⟨z, h⟩, fun _ => rfl⟩
set_option maxRecDepth 100000 in
theorem TrnU.set {B : Nat} {w wr : World} (h : TrnU B w wr) {g j : Nat} (hB : B ≤ g) (z' : Int) : TrnU B w (wr.setCell ⟨g, j, none⟩ (.int .u64 z')) := by
  refine ⟨Touch.setCell (T := fun k => B ≤ k) h.1 (p := ⟨g, j, none⟩) (fun _ => hB) _, fun a z0 ha => ?_, fun a => by rw [World.frozen?_setCell]; exact h.2.2 a⟩
  by_cases e : (⟨g, j, none⟩ : Addr) = a
  · obtain ⟨z1, h1⟩ := h.2.1 a z0 ha
    rw [← e] at h1 ⊢
    exact ⟨z', World.cell?_setCell_same _ _ _ h1⟩
  · rw [World.cell?_setCell_other _ _ _ _ e]
    exact h.2.1 a z0 ha
set_option maxRecDepth 100000 in
/-- A number of a row of one's own. -/
theorem num_get {w : World} {a : Option Addr} {n cap : Nat} {ns : List Nat} (h : w.ownsRow 0 67 1 (.slice a n cap) n (N8 ns)) (hn : ns.length = n) {k : Nat} (hk : k < n) : ∃ (b o : Nat) (z : Int), a = some ⟨b, o, none⟩ ∧ (Value.slice a n cap).ownBlock = some b ∧ w.cell? ⟨b, o + k, none⟩ = some (.int .u64 z) ∧ w.frozen? ⟨b, o + k, none⟩ = false := by
  obtain ⟨a', cap', e, _, _, hq⟩ := own_cq h
  cases e
  obtain ⟨b, o, e, hb, hc⟩ := hq k (U8 (ns[k]'(by omega))) (by rw [N8_get, List.getElem?_eq_getElem (by omega)]; rfl)
  obtain ⟨cur, hcur⟩ := row_type h hb
  exact ⟨b, o, _, e, hb, hc, frozen_of_row w b _ cur 67 hcur⟩
set_option maxRecDepth 100000 in
/-- A sector is read, whether the disk has power or not. -/
theorem dread_u {w : World} {O : Nat → Prop} {p : Nat} {D : dSt} {n : Nat} (h : IsDO w O p D) (hk : DOk D n) (hn : n ≤ 900) (i : Int) (hi : 0 ≤ i ∧ i < D.size) (s : List UInt8) (z : Int) (hs : s = rdS D i) (hz : z = if D.left = 0 then 10 else 0) : Calls Tryd.prog 31 #[Ptr p, .int .i64 i] w (fun e w' => ∃ a m cap, e = .returned (.tuple #[.slice a m cap, .int .i64 z]) ∧ Hid (At w' a s ∧ s.length = m ∧ Adds w w')) := by
  by_cases hon : D.left = 0
  · rw [hs, hz, rdS, if_pos hon, if_pos hon]
    refine (dread_off h hk hon i hi).mono ?_
    rintro e w' ⟨rfl, hw⟩
    rw [hw]
    exact ⟨none, 0, 0, rfl, At.nil _ _, rfl, Touch.refl _ _⟩
  · rw [hs, hz, rdS, if_neg hon, if_neg hon]
    refine (dread_any h hk hn hon i hi).mono ?_
    rintro e w' ⟨g, cap, rfl, H⟩
    exact ⟨_, _, _, rfl, H.out.1, H.out.2.1, H.out.2.2⟩
set_option maxRecDepth 100000 in
theorem mw_latest {w0 w : World} {X : List (Nat × Obj)} {l d q r : Nat} {L L' : U.MS} {D D' : dSt} (h : MwE w0 w X l d q r L L' D D') (hk : L.Ok) : Calls Tryd.prog 14 #[Ptr l] w (PLatU w L.lat) := by
  obtain ⟨OL, OD, OQ, OR, h⟩ := h
  obtain ⟨_, _, q⟩ := h.wl.mas
  exact mlatestU_any q hk
set_option maxRecDepth 100000 in
set_option maxHeartbeats 8000000 in
theorem p10_alike {w0 w : World} {X : List (Nat × Obj)} {pp l d q r n0 : Nat} {L : U.MS} {D : dSt} (h : MwE w0 w X l d q r L L D D) (hX : (pp, PB10 d r (Ptr l) (Ptr q)) ∈ X) (hk : L.Ok) (hdk : DOk D n0) (hn0 : n0 ≤ 900) (hsz : D.size ≤ 4096) :
    Calls Tryd.prog 12 #[Ptr pp] w (PMw w0 X l d q r L L D D (.bool true)) := by
  have hb : w.heap[pp]? = some (PB10 d r (Ptr l) (Ptr q)) := h.other _ hX
  have c2 : w.cell? ⟨pp, 2, none⟩ = some (Ptr l) := by have c := cellOf hb 2; simpa using c
  have HLt := hid (mw_latest h hk)
  have HP := hid h
  obtain ⟨ns, hns⟩ : ∃ ns, ns = L.lat.fs := ⟨_, rfl⟩
  obtain ⟨n1, hn1⟩ : ∃ n1, n1 = ns.length := ⟨_, rfl⟩
  obtain ⟨ep, hep⟩ : ∃ ep, ep = L.lat.ep := ⟨_, rfl⟩
  obtain ⟨wh, hwh⟩ : ∃ wh, wh = L.which := ⟨_, rfl⟩
  obtain ⟨st, hst⟩ : ∃ st, st = D.steps := ⟨_, rfl⟩
  have hn20 : n1 ≤ 20 := by rw [hn1, hns]; exact hk.lat.fit.len
  have hepb : ep ≤ 1000000000 := by rw [hep]; exact hk.lat.ep
  unfold PLatU at HLt
  rw [← hns, ← hn1, ← hep] at HLt
  have HQL := hid (fun w' (hA : Adds w w') => show ∃ O, Calls Tryd.prog 24 #[Ptr q] w' (fun e w'' => ∃ a cap, e = .returned (.agg #[.int .i64 (ep : Int), .slice a n1 cap]) ∧ Hid (NQ w'' O ⟨a, cap, ns⟩ ∧ Adds w' w'')) by
    obtain ⟨O, hO⟩ := mq_latest (h.adds hA)
    refine ⟨O, ?_⟩
    unfold PRLat at hO
    rw [← hns, ← hn1, ← hep] at hO
    exact hO)
  have HSl := hid (fun w' (hA : Adds w w') => show Calls Tryd.prog 15 #[Ptr l] w' (Adding (.int .i64 wh) w') by rw [hwh]; exact mw_slot (h.adds hA))
  have HWh := hid (fun w' (hA : Adds w w') => show Calls Tryd.prog 30 #[Ptr q] w' (Adding (.int .i64 wh) w') by rw [hwh]; exact mq_which (h.adds hA))
  have HSt := hid (fun w' (hA : Adds w w') => show Calls Tryd.prog 22 #[Ptr d] w' (Tells (.int .i64 st) w') by rw [hst]; exact mw_steps (h.adds hA) hdk.size)
  have HSm := hid (fun (w' : World) (Q1 Q2 : Nat → Prop) (a1 a2 : Option Addr) (k1 k2 : Nat) (h1 : NQ w' Q1 ⟨a1, k1, ns⟩) (h2 : NQ w' Q2 ⟨a2, k2, ns⟩) => same10 a1 a2 k1 k2 n1 n1 ns ns w' hn1.symm hn1.symm h1 h2 ⟨by omega, by omega⟩ true (by simp))
  have HBp := hid hb
  obtain ⟨OD, OR, hd⟩ := PdE.adds (MwE.disks h) (Touch.refl _ w)
  obtain ⟨hv, wv, hrf, _, _, _⟩ := hd.ro
  obtain ⟨g, gc, hhv, _⟩ := hrf.heldAt
  obtain ⟨sn, hsn⟩ : ∃ sn, sn = D.size.toNat := ⟨_, rfl⟩
  have hsn2 : sn ≤ 4096 := by omega
  have HSN := hid (show (sn : Int) = D.size by have := hdk.size; omega)
  rw [← hsn] at hhv
  have HRb := hid (fun (w' : World) (h' : MwE w0 w' X l d q r L L D D) => show ∃ hv wv gc g, w'.heap[r]? = some (.cells #[hv, wv, .int .i64 st, .int .i64 D.left] 76 (0, 0)) ∧ hv = .slice (some ⟨g, 0, none⟩) sn gc by
    obtain ⟨OD, OR, hd⟩ := h'.disks
    obtain ⟨hv, wv, hrf, _, _, _⟩ := hd.ro
    obtain ⟨g, gc, hhv, _⟩ := hrf.heldAt
    rw [← hsn] at hhv
    exact ⟨hv, wv, gc, g, by rw [hst]; exact hrf.box, hhv⟩)
  have HDr := hid (fun (w' : World) (h' : MwE w0 w' X l d q r L L D D) (i : Nat) (hi : i < sn) (s : List UInt8) (z : Int) (hs : s = rdS D i) (hz : z = if D.left = 0 then 10 else 0) => show Calls Tryd.prog 31 #[Ptr d, .int .i64 (i : Int)] w' (fun e w'' => ∃ a m cap, e = .returned (.tuple #[.slice a m cap, .int .i64 z]) ∧ Hid (At w'' a s ∧ s.length = m ∧ Adds w' w'')) by
    obtain ⟨OD, OR, hd⟩ := h'.disks
    exact dread_u hd.dk hdk hn0 (i : Int) (by have := HSN.out; omega) s z hs hz)
  have HRr := hid (fun (w' : World) (h' : MwE w0 w' X l d q r L L D D) (i : Nat) (hi : i < sn) (s : List UInt8) (z : Int) (hs : s = rdS D i) (hz : z = if D.left = 0 then 10 else 0) => show Calls Tryd.prog 32 #[Ptr r, .int .i64 (i : Int)] w' (Tells (.tuple #[.string ⟨s.toArray⟩, .int .i64 z]) w') by
    obtain ⟨OD, OR, hd⟩ := h'.disks
    exact ro_read hd.ro hdk hn0 (i : Int) (by have := HSN.out; omega) s z hs hz)
  have HXm := hid hX
  have HBr := hid (show w.heap[r]? = some (.cells #[hv, wv, .int .i64 st, .int .i64 D.left] 76 (0, 0)) by rw [hst]; exact hrf.box)
  have HN1 := hid hn1
  have HNQ := hid (fun (w' : World) (a1 : Option Addr) (k1 : Nat) (h1 : w'.ownsRow 0 67 1 (.slice a1 n1 k1) n1 (N8 ns)) => show NQ w' (fun k => (Value.slice a1 n1 k1).ownBlock = some k) ⟨a1, k1, ns⟩ by
    obtain ⟨a', cap', e, _, hn, hq⟩ := own_cq h1
    cases e
    exact ⟨hq, hn⟩)
  clear h hd hrf hhv hb hX hk hdk hns hn1 hep hwh hst hsn hn0
  go_enter Tryd.func12, Tryd.ntmps12
  go_upto_region 3 with (first
    | (go_at_call 14; refine HLt.out.mono ?_; rintro e w1 ⟨a1, k1, rfl, H1⟩; have HA1 := hid H1.out.2.2; have c31 : w1.cell? ⟨pp, 3, none⟩ = some (Ptr q) := by (have c := cellOf (HA1.out.at' HBp.out id) 3; simpa using c))
    | (go_at_call 24; obtain ⟨OQ, hQL⟩ := HQL.out w1 HA1.out; refine hQL.mono ?_; rintro e w2 ⟨a2, k2, rfl, H2⟩; clear hQL))
  obtain ⟨lb, hlb⟩ : ∃ lb, lb = w2.heap.size := ⟨_, rfl⟩
  obtain ⟨w3, hw3⟩ : ∃ w3, w3 = w2.alloc (.cells #[.int .i64 (ep : Int), .slice a2 n1 k2] 81) := ⟨_, rfl⟩
  have HL3 := hid (show w3.heap[lb]? = some (.cells #[.int .i64 (ep : Int), .slice a2 n1 k2] 81 (0, 0)) by rw [hw3, hlb]; exact heap_alloc_new w2 _)
  have HA3 := hid (show Adds w2 w3 by rw [hw3]; exact (Touch.refl _ w2).alloc _)
  rw [← hlb, ← hw3]
  clear hlb hw3 c31
  refine H_begin (S := fun w' : World => Adds w3 w') (by kernel_rfl) ?_
  have hS : (fun w' : World => Adds w3 w') w3.drew := (Touch.refl _ w3).drew
  refine H_put (i := 0) 27 (v := .slice a1 n1 k1) rfl rfl (by kernel_rfl) (by kernel_rfl) (by kernel_rfl) (fun _ _ _ h => h) (Or.inl ⟨by rfl, fun w' hw' => ?_⟩) hS ?_
  · go_simp
  simp only [Act.put, List.setIfInBounds_toArray, List.set_cons_zero, List.set_cons_succ]
  refine H_put (i := 1) 28 (v := .pointer (some ⟨lb, 1, none⟩)) rfl rfl (by kernel_rfl) (by kernel_rfl) (by kernel_rfl) (fun _ _ _ h => h) (Or.inl ⟨by rfl, fun w' hw' => ?_⟩) hS ?_
  · go_simp
  simp only [Act.put, List.setIfInBounds_toArray, List.set_cons_zero, List.set_cons_succ]
  refine H_put (i := 2) 29 (v := .slice a2 n1 k2) rfl rfl (by kernel_rfl) (by kernel_rfl) (by kernel_rfl) (fun _ _ _ h => h) (Or.inl ⟨by rfl, fun w' hw' => ?_⟩) hS ?_
  · (have c : w'.cell? ⟨lb, 1, none⟩ = some (.slice a2 n1 k2) := by (have c := cellOf ((hw').at' HL3.out id) 1; simpa using c)); go_simp
  simp only [Act.put, List.setIfInBounds_toArray, List.set_cons_zero, List.set_cons_succ]
  refine H_call (i := 3) 30 20 #[.slice a1 n1 k1, .slice a2 n1 k2] (by kernel_rfl) rfl rfl (by rfl) (by go_simp) (HSm.out w3.drew _ _ a1 a2 k1 k2 ((HNQ.out w1 a1 k1 H1.out.1).adds (H2.out.2.trans (HA3.out.trans hS))) (H2.out.1.adds (HA3.out.trans hS))) ?_
  rintro e w4 ⟨rfl, hA4⟩
  have HB4 := hid (hS.trans hA4)
  clear hA4
  have hS2 : (fun w' : World => Adds w3 w') _ := HB4.out
  refine ⟨_, _, rfl, hS2, fun w' h => h, ?_⟩
  clear hS; have hS := hS2; clear hS2
  simp only [Act.put, List.setIfInBounds_toArray, List.set_cons_zero, List.set_cons_succ]
  refine H_put (i := 4) 31 (v := .bool false) rfl rfl (by kernel_rfl) (by kernel_rfl) (by kernel_rfl) (fun _ _ _ h => h) (Or.inl ⟨by rfl, fun w' hw' => ?_⟩) hS ?_
  · go_simp
  simp only [Act.put, List.setIfInBounds_toArray, List.set_cons_zero, List.set_cons_succ]
  refine H_put (i := 5) 32 (v := .bool false) rfl rfl (by kernel_rfl) (by kernel_rfl) (by kernel_rfl) (fun _ _ _ h => h) (Or.inl ⟨by rfl, fun w' hw' => ?_⟩) hS ?_
  · go_simp
  simp only [Act.put, List.setIfInBounds_toArray, List.set_cons_zero, List.set_cons_succ]
  refine H_put (i := 6) 33 (v := .int .i64 (ep : Int)) rfl rfl (by kernel_rfl) (by kernel_rfl) (by kernel_rfl) (fun _ _ _ h => h) (Or.inl ⟨by rfl, fun w' hw' => ?_⟩) hS ?_
  · go_simp
  simp only [Act.put, List.setIfInBounds_toArray, List.set_cons_zero, List.set_cons_succ]
  refine H_put (i := 7) 34 (v := .pointer (some ⟨lb, 0, none⟩)) rfl rfl (by kernel_rfl) (by kernel_rfl) (by kernel_rfl) (fun _ _ _ h => h) (Or.inl ⟨by rfl, fun w' hw' => ?_⟩) hS ?_
  · go_simp
  simp only [Act.put, List.setIfInBounds_toArray, List.set_cons_zero, List.set_cons_succ]
  refine H_put (i := 8) 35 (v := .int .i64 (ep : Int)) rfl rfl (by kernel_rfl) (by kernel_rfl) (by kernel_rfl) (fun _ _ _ h => h) (Or.inl ⟨by rfl, fun w' hw' => ?_⟩) hS ?_
  · (have c : w'.cell? ⟨lb, 0, none⟩ = some (.int .i64 (ep : Int)) := by (have c := cellOf ((hw').at' HL3.out id) 0; simpa using c)); go_simp
  simp only [Act.put, List.setIfInBounds_toArray, List.set_cons_zero, List.set_cons_succ]
  refine H_put (i := 9) 36 (v := .bool false) rfl rfl (by kernel_rfl) (by kernel_rfl) (by kernel_rfl) (fun _ _ _ h => h) (Or.inl ⟨by rfl, fun w' hw' => ?_⟩) hS ?_
  · go_simp
  simp only [Act.put, List.setIfInBounds_toArray, List.set_cons_zero, List.set_cons_succ]
  refine H_put (i := 10) 37 (v := .bool false) rfl rfl (by kernel_rfl) (by kernel_rfl) (by kernel_rfl) (fun _ _ _ h => h) (Or.inl ⟨by rfl, fun w' hw' => ?_⟩) hS ?_
  · go_simp
  simp only [Act.put, List.setIfInBounds_toArray, List.set_cons_zero, List.set_cons_succ]
  refine H_put (i := 11) 38 (v := .bool false) rfl rfl (by kernel_rfl) (by kernel_rfl) (by kernel_rfl) (fun _ _ _ h => h) (Or.inl ⟨by rfl, fun w' hw' => ?_⟩) hS ?_
  · go_simp
  simp only [Act.put, List.setIfInBounds_toArray, List.set_cons_zero, List.set_cons_succ]
  refine H_put (i := 12) 39 (v := .bool (decide (0 < ep))) rfl rfl (by kernel_rfl) (by kernel_rfl) (by kernel_rfl) (fun _ _ _ h => h) (Or.inl ⟨by rfl, fun w' hw' => ?_⟩) hS ?_
  · go_simp
  simp only [Act.put, List.setIfInBounds_toArray, List.set_cons_zero, List.set_cons_succ]
  refine H_put (i := 13) 40 (v := .pointer (some ⟨lb, 0, none⟩)) rfl rfl (by kernel_rfl) (by kernel_rfl) (by kernel_rfl) (fun _ _ _ h => h) (Or.inl ⟨by rfl, fun w' hw' => ?_⟩) hS ?_
  · go_simp
  simp only [Act.put, List.setIfInBounds_toArray, List.set_cons_zero, List.set_cons_succ]
  refine H_put (i := 14) 41 (v := .int .i64 (ep : Int)) rfl rfl (by kernel_rfl) (by kernel_rfl) (by kernel_rfl) (fun _ _ _ h => h) (Or.inl ⟨by rfl, fun w' hw' => ?_⟩) hS ?_
  · (have c : w'.cell? ⟨lb, 0, none⟩ = some (.int .i64 (ep : Int)) := by (have c := cellOf ((hw').at' HL3.out id) 0; simpa using c)); go_simp
  simp only [Act.put, List.setIfInBounds_toArray, List.set_cons_zero, List.set_cons_succ]
  refine H_put (i := 15) 42 (v := .bool (decide (0 < ep))) rfl rfl (by kernel_rfl) (by kernel_rfl) (by kernel_rfl) (fun _ _ _ h => h) (Or.inl ⟨by rfl, fun w' hw' => ?_⟩) hS ?_
  · go_simp
  simp only [Act.put, List.setIfInBounds_toArray, List.set_cons_zero, List.set_cons_succ]
  refine H_put (i := 16) 43 (v := .bool false) rfl rfl (by kernel_rfl) (by kernel_rfl) (by kernel_rfl) (fun _ _ _ h => h) (Or.inl ⟨by rfl, fun w' hw' => ?_⟩) hS ?_
  · go_simp
  simp only [Act.put, List.setIfInBounds_toArray, List.set_cons_zero, List.set_cons_succ]
  refine H_put (i := 17) 44 (v := .bool false) rfl rfl (by kernel_rfl) (by kernel_rfl) (by kernel_rfl) (fun _ _ _ h => h) (Or.inl ⟨by rfl, fun w' hw' => ?_⟩) hS ?_
  · go_simp
  simp only [Act.put, List.setIfInBounds_toArray, List.set_cons_zero, List.set_cons_succ]
  refine H_put (i := 18) 45 (v := .bool false) rfl rfl (by kernel_rfl) (by kernel_rfl) (by kernel_rfl) (fun _ _ _ h => h) (Or.inl ⟨by rfl, fun w' hw' => ?_⟩) hS ?_
  · go_simp
  simp only [Act.put, List.setIfInBounds_toArray, List.set_cons_zero, List.set_cons_succ]
  refine H_put (i := 19) 46 (v := Ptr pp) rfl rfl (by kernel_rfl) (by kernel_rfl) (by kernel_rfl) (fun _ _ _ h => h) (Or.inl ⟨by rfl, fun w' hw' => ?_⟩) hS ?_
  · go_simp
  simp only [Act.put, List.setIfInBounds_toArray, List.set_cons_zero, List.set_cons_succ]
  refine H_put (i := 20) 47 (v := Ptr pp) rfl rfl (by kernel_rfl) (by kernel_rfl) (by kernel_rfl) (fun _ _ _ h => h) (Or.inl ⟨by rfl, fun w' hw' => ?_⟩) hS ?_
  · go_simp
  simp only [Act.put, List.setIfInBounds_toArray, List.set_cons_zero, List.set_cons_succ]
  refine H_put (i := 21) 48 (v := .pointer (some ⟨pp, 2, none⟩)) rfl rfl (by kernel_rfl) (by kernel_rfl) (by kernel_rfl) (fun _ _ _ h => h) (Or.inl ⟨by rfl, fun w' hw' => ?_⟩) hS ?_
  · go_simp
  simp only [Act.put, List.setIfInBounds_toArray, List.set_cons_zero, List.set_cons_succ]
  refine H_put (i := 22) 49 (v := Ptr l) rfl rfl (by kernel_rfl) (by kernel_rfl) (by kernel_rfl) (fun _ _ _ h => h) (Or.inl ⟨by rfl, fun w' hw' => ?_⟩) hS ?_
  · (have c : w'.cell? ⟨pp, 2, none⟩ = some (Ptr l) := by (have c := cellOf ((HA1.out.trans (H2.out.2.trans (HA3.out.trans hw'))).at' HBp.out id) 2; simpa using c)); go_simp
  simp only [Act.put, List.setIfInBounds_toArray, List.set_cons_zero, List.set_cons_succ]
  refine H_put (i := 24) 51 (v := Ptr pp) rfl rfl (by kernel_rfl) (by kernel_rfl) (by kernel_rfl) (fun _ _ _ h => h) (Or.inl ⟨by rfl, fun w' hw' => ?_⟩) hS ?_
  · go_simp
  simp only [Act.put, List.setIfInBounds_toArray, List.set_cons_zero, List.set_cons_succ]
  refine H_put (i := 25) 52 (v := Ptr pp) rfl rfl (by kernel_rfl) (by kernel_rfl) (by kernel_rfl) (fun _ _ _ h => h) (Or.inl ⟨by rfl, fun w' hw' => ?_⟩) hS ?_
  · go_simp
  simp only [Act.put, List.setIfInBounds_toArray, List.set_cons_zero, List.set_cons_succ]
  refine H_put (i := 26) 53 (v := .pointer (some ⟨pp, 3, none⟩)) rfl rfl (by kernel_rfl) (by kernel_rfl) (by kernel_rfl) (fun _ _ _ h => h) (Or.inl ⟨by rfl, fun w' hw' => ?_⟩) hS ?_
  · go_simp
  simp only [Act.put, List.setIfInBounds_toArray, List.set_cons_zero, List.set_cons_succ]
  refine H_put (i := 27) 54 (v := Ptr q) rfl rfl (by kernel_rfl) (by kernel_rfl) (by kernel_rfl) (fun _ _ _ h => h) (Or.inl ⟨by rfl, fun w' hw' => ?_⟩) hS ?_
  · (have c : w'.cell? ⟨pp, 3, none⟩ = some (Ptr q) := by (have c := cellOf ((HA1.out.trans (H2.out.2.trans (HA3.out.trans hw'))).at' HBp.out id) 3; simpa using c)); go_simp
  simp only [Act.put, List.setIfInBounds_toArray, List.set_cons_zero, List.set_cons_succ]
  refine H_call (i := 23) 50 15 #[Ptr l] (by kernel_rfl) rfl rfl (by rfl) (by go_simp) (HSl.out w4 (HA1.out.trans (H2.out.2.trans (HA3.out.trans hS)))) ?_
  rintro e w5 ⟨rfl, hA5⟩
  have HB5 := hid (hS.trans hA5)
  clear hA5
  have hS2 : (fun w' : World => Adds w3 w') _ := HB5.out
  refine ⟨_, _, rfl, hS2, fun w' h => h, ?_⟩
  clear hS; have hS := hS2; clear hS2
  simp only [Act.put, List.setIfInBounds_toArray, List.set_cons_zero, List.set_cons_succ]
  refine H_call (i := 28) 55 30 #[Ptr q] (by kernel_rfl) rfl rfl (by rfl) (by go_simp) (HWh.out w5 (HA1.out.trans (H2.out.2.trans (HA3.out.trans hS)))) ?_
  rintro e w6 ⟨rfl, hA6⟩
  have HB6 := hid (hS.trans hA6)
  clear hA6
  have hS2 : (fun w' : World => Adds w3 w') _ := HB6.out
  refine ⟨_, _, rfl, hS2, fun w' h => h, ?_⟩
  clear hS; have hS := hS2; clear hS2
  simp only [Act.put, List.setIfInBounds_toArray, List.set_cons_zero, List.set_cons_succ]
  refine H_put (i := 29) 56 (v := .bool false) rfl rfl (by kernel_rfl) (by kernel_rfl) (by kernel_rfl) (fun _ _ _ h => h) (Or.inl ⟨by rfl, fun w' hw' => ?_⟩) hS ?_
  · go_simp
  simp only [Act.put, List.setIfInBounds_toArray, List.set_cons_zero, List.set_cons_succ]
  refine H_put (i := 30) 57 (v := .bool false) rfl rfl (by kernel_rfl) (by kernel_rfl) (by kernel_rfl) (fun _ _ _ h => h) (Or.inl ⟨by rfl, fun w' hw' => ?_⟩) hS ?_
  · go_simp
  simp only [Act.put, List.setIfInBounds_toArray, List.set_cons_zero, List.set_cons_succ]
  refine H_put (i := 31) 58 (v := .bool false) rfl rfl (by kernel_rfl) (by kernel_rfl) (by kernel_rfl) (fun _ _ _ h => h) (Or.inl ⟨by rfl, fun w' hw' => ?_⟩) hS ?_
  · go_simp
  simp only [Act.put, List.setIfInBounds_toArray, List.set_cons_zero, List.set_cons_succ]
  refine H_put (i := 32) 59 (v := Ptr pp) rfl rfl (by kernel_rfl) (by kernel_rfl) (by kernel_rfl) (fun _ _ _ h => h) (Or.inl ⟨by rfl, fun w' hw' => ?_⟩) hS ?_
  · go_simp
  simp only [Act.put, List.setIfInBounds_toArray, List.set_cons_zero, List.set_cons_succ]
  refine H_put (i := 33) 60 (v := Ptr pp) rfl rfl (by kernel_rfl) (by kernel_rfl) (by kernel_rfl) (fun _ _ _ h => h) (Or.inl ⟨by rfl, fun w' hw' => ?_⟩) hS ?_
  · go_simp
  simp only [Act.put, List.setIfInBounds_toArray, List.set_cons_zero, List.set_cons_succ]
  refine H_put (i := 34) 61 (v := .pointer (some ⟨pp, 0, none⟩)) rfl rfl (by kernel_rfl) (by kernel_rfl) (by kernel_rfl) (fun _ _ _ h => h) (Or.inl ⟨by rfl, fun w' hw' => ?_⟩) hS ?_
  · go_simp
  simp only [Act.put, List.setIfInBounds_toArray, List.set_cons_zero, List.set_cons_succ]
  refine H_put (i := 35) 62 (v := Ptr d) rfl rfl (by kernel_rfl) (by kernel_rfl) (by kernel_rfl) (fun _ _ _ h => h) (Or.inl ⟨by rfl, fun w' hw' => ?_⟩) hS ?_
  · (have c : w'.cell? ⟨pp, 0, none⟩ = some (Ptr d) := by (have c := cellOf ((HA1.out.trans (H2.out.2.trans (HA3.out.trans hw'))).at' HBp.out id) 0; simpa using c)); go_simp
  simp only [Act.put, List.setIfInBounds_toArray, List.set_cons_zero, List.set_cons_succ]
  refine H_put (i := 37) 64 (v := Ptr pp) rfl rfl (by kernel_rfl) (by kernel_rfl) (by kernel_rfl) (fun _ _ _ h => h) (Or.inl ⟨by rfl, fun w' hw' => ?_⟩) hS ?_
  · go_simp
  simp only [Act.put, List.setIfInBounds_toArray, List.set_cons_zero, List.set_cons_succ]
  refine H_put (i := 38) 65 (v := Ptr pp) rfl rfl (by kernel_rfl) (by kernel_rfl) (by kernel_rfl) (fun _ _ _ h => h) (Or.inl ⟨by rfl, fun w' hw' => ?_⟩) hS ?_
  · go_simp
  simp only [Act.put, List.setIfInBounds_toArray, List.set_cons_zero, List.set_cons_succ]
  refine H_put (i := 39) 66 (v := .pointer (some ⟨pp, 1, none⟩)) rfl rfl (by kernel_rfl) (by kernel_rfl) (by kernel_rfl) (fun _ _ _ h => h) (Or.inl ⟨by rfl, fun w' hw' => ?_⟩) hS ?_
  · go_simp
  simp only [Act.put, List.setIfInBounds_toArray, List.set_cons_zero, List.set_cons_succ]
  refine H_put (i := 40) 67 (v := Ptr r) rfl rfl (by kernel_rfl) (by kernel_rfl) (by kernel_rfl) (fun _ _ _ h => h) (Or.inl ⟨by rfl, fun w' hw' => ?_⟩) hS ?_
  · (have c : w'.cell? ⟨pp, 1, none⟩ = some (Ptr r) := by (have c := cellOf ((HA1.out.trans (H2.out.2.trans (HA3.out.trans hw'))).at' HBp.out id) 1; simpa using c)); go_simp
  simp only [Act.put, List.setIfInBounds_toArray, List.set_cons_zero, List.set_cons_succ]
  refine H_put (i := 41) 68 (v := Ptr r) rfl rfl (by kernel_rfl) (by kernel_rfl) (by kernel_rfl) (fun _ _ _ h => h) (Or.inl ⟨by rfl, fun w' hw' => ?_⟩) hS ?_
  · go_simp
  simp only [Act.put, List.setIfInBounds_toArray, List.set_cons_zero, List.set_cons_succ]
  refine H_put (i := 42) 69 (v := .pointer (some ⟨r, 2, none⟩)) rfl rfl (by kernel_rfl) (by kernel_rfl) (by kernel_rfl) (fun _ _ _ h => h) (Or.inl ⟨by rfl, fun w' hw' => ?_⟩) hS ?_
  · go_simp
  simp only [Act.put, List.setIfInBounds_toArray, List.set_cons_zero, List.set_cons_succ]
  refine H_put (i := 43) 70 (v := .int .i64 st) rfl rfl (by kernel_rfl) (by kernel_rfl) (by kernel_rfl) (fun _ _ _ h => h) (Or.inl ⟨by rfl, fun w' hw' => ?_⟩) hS ?_
  · (have c : w'.cell? ⟨r, 2, none⟩ = some (.int .i64 st) := by (have c := cellOf ((HA1.out.trans (H2.out.2.trans (HA3.out.trans hw'))).at' HBr.out id) 2; simpa using c)); go_simp
  simp only [Act.put, List.setIfInBounds_toArray, List.set_cons_zero, List.set_cons_succ]
  refine H_call (i := 36) 63 22 #[Ptr d] (by kernel_rfl) rfl rfl (by rfl) (by go_simp) (HSt.out w6 (HA1.out.trans (H2.out.2.trans (HA3.out.trans hS)))) ?_
  rintro e _ ⟨rfl, hw⟩
  rw [hw]
  clear hw
  have hS2 : (fun w' : World => Adds w3 w') _ := hS
  refine ⟨_, _, rfl, hS2, fun w' h => h, ?_⟩
  clear hS; have hS := hS2; clear hS2
  simp only [Act.put, List.setIfInBounds_toArray, List.set_cons_zero, List.set_cons_succ]
  refine H_put (i := 44) 71 (v := .bool false) rfl rfl (by kernel_rfl) (by kernel_rfl) (by kernel_rfl) (fun _ _ _ h => h) (Or.inl ⟨by rfl, fun w' hw' => ?_⟩) hS ?_
  · go_simp
  simp only [Act.put, List.setIfInBounds_toArray, List.set_cons_zero, List.set_cons_succ]
  refine H_put (i := 45) 72 (v := .bool false) rfl rfl (by kernel_rfl) (by kernel_rfl) (by kernel_rfl) (fun _ _ _ h => h) (Or.inl ⟨by rfl, fun w' hw' => ?_⟩) hS ?_
  · go_simp
  simp only [Act.put, List.setIfInBounds_toArray, List.set_cons_zero, List.set_cons_succ]
  refine wpAnyH_done (by kernel_rfl) ?_ _
  have HZ := hid (And.intro (H2.out.2.trans (HA3.out.trans hS)) (HA1.out.trans (H2.out.2.trans (HA3.out.trans hS))))
  clear hS
  obtain ⟨wz, hwz⟩ : ∃ wz, wz = w6 := ⟨_, rfl⟩
  rw [← hwz] at HZ ⊢
  have HGt := hid (fun k (hk : k < n1) => show ∃ (b o : Nat) (z : Int), a1 = some ⟨b, o, none⟩ ∧ w.heap.size ≤ b ∧ wz.cell? ⟨b, o + k, none⟩ = some (.int .u64 z) ∧ wz.frozen? ⟨b, o + k, none⟩ = false by
    obtain ⟨b, o, z, e1, e2, e3, e4⟩ := num_get (row_touch H1.out.1 HZ.out.1 (fun _ _ => id)) HN1.out.symm hk
    exact ⟨b, o, z, e1, H1.out.2.1 b e2, e3, e4⟩)
  have HF := hid (fun wr (h : TrnU w.heap.size wz wr) => HP.out.turnNew HZ.out.2 h.1)
  clear hwz
  go_wp2_with fail
  go_loopw [75] (fun i wr => ∃ k : Nat, k ≤ n1 ∧ i = .int .i64 (k : Int) ∧ Hid (TrnU w.heap.size wz wr)) (fun i _ => n1 - (intOf i).toNat)
  case atStart => exact ⟨0, Nat.zero_le _, rfl, TrnU.refl _ _⟩
  case round =>
    obtain ⟨k, hk, rfl, HI⟩ := hrel
    by_cases hlt : k < n1
    · obtain ⟨b3, o3, z3, rfl, hB3, hc3, hf3⟩ := HGt.out k hlt
      obtain ⟨z4, q3⟩ := HI.out.2.1 _ _ hc3
      have q4 : wr.frozen? ⟨b3, o3 + k, none⟩ = false := by rw [HI.out.2.2]; exact hf3
      have HBB := hid hB3
      clear hc3 hf3 hB3
      go_wp2_with fail
      go_roundw
      case rel => exact ⟨k + 1, by omega, by go_num, HI.out.set HBB.out _⟩
      case measure => simp [intOf]; omega
    · obtain rfl : k = n1 := by omega
      have HM := hid (HF.out wr HI.out)
      obtain ⟨hv2, wv2, gc2, g2, hrb, hhv2⟩ := HRb.out wr HM.out
      subst hhv2
      have hpb := HM.out.other _ HXm.out
      have e1 : wr.cell? ⟨pp, 1, none⟩ = some (Ptr r) := by have c := cellOf hpb 1; simpa using c
      have e2 : wr.cell? ⟨r, 0, none⟩ = some (.slice (some ⟨g2, 0, none⟩) sn gc2) := cellOf hrb 0
      clear hpb hrb HGt HF HI
      go_wp2_with fail
      clear e1 e2
      go_loopw [93] (fun i wy => ∃ j : Nat, j ≤ sn ∧ i = .int .i64 (j : Int) ∧ Hid (MwE w0 wy X l d q r L L D D)) (fun i _ => sn - (intOf i).toNat)
      case atStart => exact ⟨0, Nat.zero_le _, rfl, HM.out⟩
      case round =>
        obtain ⟨j, hj, rfl, HJ⟩ := hrel
        by_cases hjl : j < sn
        · have d0 : wr.cell? ⟨pp, 0, none⟩ = some (Ptr d) := by have c := cellOf (HJ.out.other _ HXm.out) 0; simpa using c
          obtain ⟨s, hs⟩ : ∃ s, s = rdS D (j : Int) := ⟨_, rfl⟩
          obtain ⟨z, hz⟩ : ∃ z, z = if D.left = 0 then (10 : Int) else 0 := ⟨_, rfl⟩
          have HA4 := hid (HDr.out wr HJ.out j hjl s z hs hz)
          have HB4 := hid (fun w1 (h1 : MwE w0 w1 X l d q r L L D D) => HRr.out w1 h1 j hjl s z hs hz)
          have hss : (s == s) = true := by simp
          have hss2 : ((⟨s.toArray⟩ : ByteArray).toList == (⟨s.toArray⟩ : ByteArray).toList) = true := by simp
          clear hs hz
          go_wp2_with (first
            | (go_at_call 31; refine HA4.out.mono ?_; rintro e wA ⟨sa, sm, scap, rfl, HX4⟩
               have HMA := hid (HJ.out.adds HX4.out.2.2)
               have d11 : wA.cell? ⟨pp, 1, none⟩ = some (Ptr r) := by (have c := cellOf (HMA.out.other _ HXm.out) 1; simpa using c)
               have hcv : (convert 91 9 (.slice sa sm scap)).run Tryd.prog wA = .ok (.string ⟨s.toArray⟩) wA := by (have q := conv_at wA sa s scap HX4.out.1; rw [HX4.out.2.1] at q; exact q))
            | (go_at_call 32; refine (HB4.out wA HMA.out).mono ?_; rintro e _ ⟨rfl, hw⟩; rw [hw]; clear hw))
          go_roundw
          case rel => exact ⟨j + 1, by omega, by go_num, HMA.out⟩
          case measure => simp [intOf]; omega
        · obtain rfl : j = sn := by omega
          go_wp2_with fail
          go_ret
          exact ⟨rfl, HJ.out⟩
end Go.Proofs.YtmmgfankbabfbaaDoor
