/- Texts put together: WP0, WP2, WP3, WP4, WP1, WP5. -/
import Derived.Test.YtllkplanjfnnmaaGreatDoorQ37
import Derived.Test.YtllkplanjfnnmaaGreatDoorQ38
import Derived.BigQuiet
import Derived.Deep.CutBlock
import Derived.Deep.DeepCutAuto
/- A log and its disk on both sides: the program's and the reference's. -/
namespace Go.Proofs.YtllkplanjfnnmaaGreatDoor
open Go.RowKit

/-- A log l on the disk d, in the states L and D, the reference's q on r, in L' and D'; other blocks X, which are nobody's. -/
structure Pw (w0 w : World) (X : List (Nat × Obj)) (OL OD OQ OR : Nat → Prop) (l d q r : Nat) (L L' : LS) (D D' : dSt) : Prop where
  wl : Wl w0 w OL OD l d L D
  isq : ∃ vL t s, IsQ w OQ q r vL t s L'
  ro : IsRO w OR r D'
  apq : ∀ k, OQ k → ¬ OR k
  ap : ∀ k, OL k ∨ OD k → ¬ (OQ k ∨ OR k)
  low : ∀ k, OQ k ∨ OR k → w0.heap.size ≤ k
  lt : ∀ k, OQ k ∨ OR k → k < w.heap.size
  oth : ∀ x ∈ X, w.heap[x.1]? = some x.2 ∧ ¬ ((OL x.1 ∨ OD x.1) ∨ OQ x.1 ∨ OR x.1)
def PwE (w0 w : World) (X : List (Nat × Obj)) (l d q r : Nat) (L L' : LS) (D D' : dSt) : Prop := ∃ OL OD OQ OR, Pw w0 w X OL OD OQ OR l d q r L L' D D'
/-- What a call leaves. -/
def PPw (w0 : World) (X : List (Nat × Obj)) (l d q r : Nat) (L L' : LS) (D D' : dSt) (v : Value) (e : Ending) (w' : World) : Prop := e = .returned v ∧ Hid (PwE w0 w' X l d q r L L' D D')
theorem Pw.olt {w0 w : World} {X : List (Nat × Obj)} {OL OD OQ OR : Nat → Prop} {l d q r : Nat} {L L' : LS} {D D' : dSt} (h : Pw w0 w X OL OD OQ OR l d q r L L' D D') {x : Nat × Obj} (hx : x ∈ X) : x.1 < w.heap.size := (Array.getElem?_eq_some_iff.1 (h.oth x hx).1).1
set_option maxRecDepth 100000 in
theorem Pw.adds {w0 w w' : World} {X : List (Nat × Obj)} {OL OD OQ OR : Nat → Prop} {l d q r : Nat} {L L' : LS} {D D' : dSt} (h : Pw w0 w X OL OD OQ OR l d q r L L' D D') (hA : Adds w w') : Pw w0 w' X OL OD OQ OR l d q r L L' D D' := by
  obtain ⟨vL, t, s, hq⟩ := h.isq
  exact ⟨h.wl.add hA, ⟨vL, t, s, hq.add hA⟩, h.ro.adds hA, h.apq, h.ap, h.low, fun k c => Nat.lt_of_lt_of_le (h.lt k c) hA.size, fun x hx => ⟨hA.at' (h.oth x hx).1 id, (h.oth x hx).2⟩⟩
set_option maxRecDepth 100000 in
theorem PwE.adds {w0 w w' : World} {X : List (Nat × Obj)} {l d q r : Nat} {L L' : LS} {D D' : dSt} (h : PwE w0 w X l d q r L L' D D') (hA : Adds w w') : PwE w0 w' X l d q r L L' D D' := by
  obtain ⟨OL, OD, OQ, OR, h⟩ := h
  exact ⟨OL, OD, OQ, OR, h.adds hA⟩
set_option maxRecDepth 100000 in
theorem PwE.base {w0 w : World} {X : List (Nat × Obj)} {l d q r : Nat} {L L' : LS} {D D' : dSt} (h : PwE w0 w X l d q r L L' D D') : Adds w0 w := by
  obtain ⟨OL, OD, OQ, OR, h⟩ := h
  exact h.wl.adds
set_option maxRecDepth 100000 in
theorem PwE.other {w0 w : World} {X : List (Nat × Obj)} {l d q r : Nat} {L L' : LS} {D D' : dSt} (h : PwE w0 w X l d q r L L' D D') (x : Nat × Obj) (hx : x ∈ X) : w.heap[x.1]? = some x.2 := by
  obtain ⟨OL, OD, OQ, OR, h⟩ := h
  exact (h.oth x hx).1
set_option maxRecDepth 100000 in
theorem PwE.fewer {w0 w : World} {X Y : List (Nat × Obj)} {l d q r : Nat} {L L' : LS} {D D' : dSt} (h : PwE w0 w X l d q r L L' D D') (hY : ∀ x ∈ Y, x ∈ X) : PwE w0 w Y l d q r L L' D D' := by
  obtain ⟨OL, OD, OQ, OR, h⟩ := h
  exact ⟨OL, OD, OQ, OR, h.wl, h.isq, h.ro, h.apq, h.ap, h.low, h.lt, fun x hx => h.oth x (hY x hx)⟩
set_option maxRecDepth 100000 in
/-- A block that was new a while ago is another one. -/
theorem PwE.more {w0 w w' : World} {X : List (Nat × Obj)} {l d q r : Nat} {L L' : LS} {D D' : dSt} (h : PwE w0 w X l d q r L L' D D') (hA : Adds w w') (g : Nat) (o : Obj) (hg : w'.heap[g]? = some o) (hn : w.heap.size ≤ g) : PwE w0 w' ((g, o) :: X) l d q r L L' D D' := by
  obtain ⟨OL, OD, OQ, OR, h⟩ := h
  have h' := h.adds hA
  refine ⟨OL, OD, OQ, OR, h'.wl, h'.isq, h'.ro, h'.apq, h'.ap, h'.low, h'.lt, fun x hx => ?_⟩
  rcases List.mem_cons.1 hx with rfl | hx
  · refine ⟨hg, fun c => ?_⟩
    rcases c with c | c
    · have := h.wl.lt g c; omega
    · have := h.lt g c; omega
  · exact h'.oth x hx
set_option maxRecDepth 100000 in
/-- What is nobody's turns. -/
theorem PwE.turn {w0 w w' : World} {X Y : List (Nat × Obj)} {l d q r : Nat} {L L' : LS} {D D' : dSt} (h : PwE w0 w X l d q r L L' D D') {T : Nat → Prop} (hT : Touch T w w') (hn : ∀ k, T k → (∃ x ∈ X, x.1 = k) ∧ w0.heap.size ≤ k) (hY : ∀ y ∈ Y, (∃ x ∈ X, x.1 = y.1) ∧ w'.heap[y.1]? = some y.2) : PwE w0 w' Y l d q r L L' D D' := by
  obtain ⟨OL, OD, OQ, OR, h⟩ := h
  obtain ⟨vL, t, s, hq⟩ := h.isq
  have key : ∀ k, T k → ¬ ((OL k ∨ OD k) ∨ OQ k ∨ OR k) := fun k c => by
    obtain ⟨⟨x, hx, e⟩, _⟩ := hn k c
    rw [← e]
    exact (h.oth x hx).2
  refine ⟨OL, OD, OQ, OR, h.wl.touch hT (fun k c => ⟨fun c' => key k c (.inl c'), (hn k c).2⟩), ⟨vL, t, s, hq.touch hT (fun k c c' => key k c' (.inr (.inl c)))⟩, h.ro.touch hT (fun k c c' => key k c' (.inr (.inr c))), h.apq, h.ap, h.low, fun k c => Nat.lt_of_lt_of_le (h.lt k c) hT.size, fun y hy => ?_⟩
  obtain ⟨⟨x, hx, e⟩, h2⟩ := hY y hy
  exact ⟨h2, by rw [← e]; exact (h.oth x hx).2⟩
set_option maxRecDepth 100000 in
/-- New memory turns. -/
theorem PwE.turnNew {w0 w w1 w2 : World} {X : List (Nat × Obj)} {l d q r : Nat} {L L' : LS} {D D' : dSt} (h : PwE w0 w X l d q r L L' D D') (hA : Adds w w1) (hT : Touch (fun k => w.heap.size ≤ k) w1 w2) : PwE w0 w2 X l d q r L L' D D' := by
  refine h.adds ?_
  exact hA.then hT (fun k hk c => by omega)
set_option maxRecDepth 100000 in
/-- The program's side has moved. -/
theorem Pw.prog {w0 w w' : World} {X : List (Nat × Obj)} {OL OD OQ OR : Nat → Prop} {l d q r : Nat} {L L' L2 : LS} {D D' D2 : dSt} {v : Value} {e : Ending} (h : Pw w0 w X OL OD OQ OR l d q r L L' D D') (hp : PWl w0 w OL OD l d L2 D2 v e w') : PPw w0 X l d q r L2 L' D2 D' v e w' := by
  obtain ⟨he, OL', OD', h1, h2, h3⟩ := hp
  obtain ⟨vL, t, s, hq⟩ := h.isq
  have hz := h2.size
  have key : ∀ k, OL' k ∨ OD' k → (OL k ∨ OD k) ∨ w.heap.size ≤ k := h3
  refine ⟨he, OL', OD', OQ, OR, h1, ⟨vL, t, s, hq.touch h2 (fun k c c' => h.ap k c' (.inl c))⟩, h.ro.touch h2 (fun k c c' => h.ap k c' (.inr c)), h.apq, fun k c c' => ?_, h.low, fun k c => Nat.lt_of_lt_of_le (h.lt k c) hz, fun x hx => ?_⟩
  · rcases key k c with c | c
    · exact h.ap k c c'
    · have := h.lt k c'; omega
  · have hl := h.olt hx
    refine ⟨h2.at' (h.oth x hx).1 (fun c => (h.oth x hx).2 (.inl c)), fun c => ?_⟩
    rcases c with c | c
    · rcases key _ c with c | c
      · exact (h.oth x hx).2 (.inl c)
      · omega
    · exact (h.oth x hx).2 (.inr c)
set_option maxRecDepth 100000 in
/-- The reference's side has moved. -/
theorem Pw.refs {w0 w w' : World} {X : List (Nat × Obj)} {OL OD OQ OR OQ' OR' : Nat → Prop} {l d q r : Nat} {L L' L2 : LS} {D D' D2 : dSt} (h : Pw w0 w X OL OD OQ OR l d q r L L' D D') (hq : ∃ vL t s, IsQ w' OQ' q r vL t s L2) (hr : IsRO w' OR' r D2) (ha : ∀ k, OQ' k → ¬ OR' k) (hT : Touch (fun k => OQ k ∨ OR k) w w') (hn : ∀ k, OQ' k ∨ OR' k → (OQ k ∨ OR k) ∨ (w.heap.size ≤ k ∧ k < w'.heap.size)) : Pw w0 w' X OL OD OQ' OR' l d q r L L2 D D2 := by
  have hz := hT.size
  have hz0 := h.wl.adds.size
  refine ⟨h.wl.touch hT (fun k c => ⟨fun c' => h.ap k c' c, h.low k c⟩), hq, hr, ha, fun k c c' => ?_, fun k c => ?_, fun k c => ?_, fun x hx => ?_⟩
  · rcases hn k c' with d1 | d1
    · exact h.ap k c d1
    · have := h.wl.lt k c; omega
  · rcases hn k c with d1 | d1
    · exact h.low k d1
    · omega
  · rcases hn k c with d1 | d1
    · have := h.lt k d1; omega
    · exact d1.2
  · have hl := h.olt hx
    refine ⟨hT.at' (h.oth x hx).1 (fun c => (h.oth x hx).2 (.inr c)), fun c => ?_⟩
    rcases c with c | c
    · exact (h.oth x hx).2 (.inl c)
    · rcases hn _ c with c | c
      · exact (h.oth x hx).2 (.inr c)
      · omega
set_option maxRecDepth 100000 in
theorem Pw.refq {w0 w w' : World} {X : List (Nat × Obj)} {OL OD OQ OR : Nat → Prop} {l d q r : Nat} {L L' L2 : LS} {D D' : dSt} {z : Int} {e : Ending} (h : Pw w0 w X OL OD OQ OR l d q r L L' D D') (hp : PIq w OQ q r L2 z e w') : PPw w0 X l d q r L L2 D D' (.int .i64 z) e w' := by
  obtain ⟨he, OQ', vL, t, s, h1, h2, h3⟩ := hp
  have hT : Touch (fun k => OQ k ∨ OR k) w w' := h2.mono (fun _ _ c => .inl c)
  refine ⟨he, OL, OD, OQ', OR, h.refs ⟨vL, t, s, h1⟩ (h.ro.touch h2 (fun k c c' => h.apq k c' c)) (fun k c c' => ?_) hT (fun k c => ?_)⟩
  · rcases h3 k c with d1 | d1
    · exact h.apq k d1 c'
    · have := h.lt k (.inr c'); omega
  · rcases c with c | c
    · rcases h3 k c with d1 | d1
      · exact .inl (.inl d1)
      · exact .inr d1
    · exact .inl (.inr c)
set_option maxRecDepth 100000 in
theorem Pw.refc {w0 w w' : World} {X : List (Nat × Obj)} {OL OD OQ OR : Nat → Prop} {l d q r : Nat} {L L' L2 : LS} {D D' D2 : dSt} {z : Int} {e : Ending} (h : Pw w0 w X OL OD OQ OR l d q r L L' D D') (hp : PCq w OQ OR q r L2 D2 z e w') : PPw w0 X l d q r L L2 D D2 (.int .i64 z) e w' := by
  obtain ⟨he, OQ', OR', vL, t, s, h1, h2, h3, h4, h5⟩ := hp
  exact ⟨he, OL, OD, OQ', OR', h.refs ⟨vL, t, s, h1⟩ h2 h3 h4 h5⟩
set_option maxRecDepth 100000 in
theorem Pw.refd {w0 w w' : World} {X : List (Nat × Obj)} {OL OD OQ OR : Nat → Prop} {l d q r : Nat} {L L' : LS} {D D' : dSt} {x : Int × dSt} {e : Ending} (h : Pw w0 w X OL OD OQ OR l d q r L L' D D') (hp : PRo w OR r x e w') : PPw w0 X l d q r L L' D x.2 (.int .i64 x.1) e w' := by
  obtain ⟨he, OR', h1, h2, h3⟩ := hp
  obtain ⟨vL, t, s, hq⟩ := h.isq
  have hT : Touch (fun k => OQ k ∨ OR k) w w' := h2.mono (fun _ _ c => .inr c)
  refine ⟨he, OL, OD, OQ, OR', h.refs ⟨vL, t, s, hq.touch h2 h.apq⟩ h1 (fun k c c' => ?_) hT (fun k c => ?_)⟩
  · rcases h3 k c' with d1 | d1
    · exact h.apq k c d1
    · have := h.lt k (.inl c); omega
  · rcases c with c | c
    · exact .inl (.inl c)
    · rcases h3 k c with d1 | d1
      · exact .inl (.inr d1)
      · exact .inr d1
/-! ### The calls, each on its side -/
set_option maxRecDepth 100000 in
theorem pw_append {w0 w : World} {X : List (Nat × Obj)} {l d q r : Nat} {L L' : LS} {D D' : dSt} (h : PwE w0 w X l d q r L L' D D') (hk : L.Ok) (a : Option Addr) (bs : List UInt8) (n cap : Nat) (hn : bs.length = n) (hA : At w a bs) : Calls Tryz.prog 13 #[Ptr l, .slice a n cap] w (PPw w0 X l d q r (appL L bs) L' D D' (.int .i64 (appE L bs))) := by
  obtain ⟨OL, OD, OQ, OR, h⟩ := h
  exact (wl_append h.wl hk a bs n cap hn hA).mono (fun _ _ p => h.prog p)
set_option maxRecDepth 100000 in
theorem pw_begin {w0 w : World} {X : List (Nat × Obj)} {l d q r : Nat} {L L' : LS} {D D' : dSt} (h : PwE w0 w X l d q r L L' D D') (e : Int) : Calls Tryz.prog 25 #[Ptr l, .int .i64 e] w (PPw w0 X l d q r (begL L e) L' D D' (.int .i64 (begE L e))) := by
  obtain ⟨OL, OD, OQ, OR, h⟩ := h
  exact (wl_begin h.wl e).mono (fun _ _ p => h.prog p)
set_option maxRecDepth 100000 in
theorem pw_commit {w0 w : World} {X : List (Nat × Obj)} {l d q r n0 : Nat} {L L' : LS} {D D' : dSt} (h : PwE w0 w X l d q r L L' D D') (hk : L.Ok) (hdk : DOk D n0) (hn0 : n0 + L.ct ≤ 800) (hsz : L.fr + L.ct ≤ D.size) (hT : Tab w0) : Calls Tryz.prog 16 #[Ptr l] w (PPw w0 X l d q r (comL L D) L' (comD L D) D' (.int .i64 (comE L D))) := by
  obtain ⟨OL, OD, OQ, OR, h⟩ := h
  exact (wl_commit h.wl hk hdk hn0 hsz hT).mono (fun _ _ p => h.prog p)
set_option maxRecDepth 100000 in
theorem pw_drop {w0 w : World} {X : List (Nat × Obj)} {l d q r : Nat} {L L' : LS} {D D' : dSt} (h : PwE w0 w X l d q r L L' D D') : Calls Tryz.prog 27 #[Ptr l] w (PPw w0 X l d q r { L with R := [] } L' D D' (.int .i64 (L.R.length : Int))) := by
  obtain ⟨OL, OD, OQ, OR, h⟩ := h
  exact (wl_drop h.wl).mono (fun _ _ p => h.prog p)
set_option maxRecDepth 100000 in
theorem pwq_append {w0 w : World} {X : List (Nat × Obj)} {l d q r : Nat} {L L' : LS} {D D' : dSt} (h : PwE w0 w X l d q r L L' D D') (hk : L'.Ok) (hct : L'.ct ≤ 1000) (ad : Addr) (bs : List UInt8) (n cap : Nat) (hn : bs.length = n) (hA : At w (some ad) bs) (hb : n ≤ 1000000) : Calls Tryz.prog 23 #[Ptr q, .slice (some ad) n cap] w (PPw w0 X l d q r L (appL L' bs) D D' (.int .i64 (appE L' bs))) := by
  obtain ⟨OL, OD, OQ, OR, h⟩ := h
  obtain ⟨vL, t, s, hq⟩ := h.isq
  exact (q_append hq (fun k c => h.lt k (.inl c)) hk hct ad bs n cap hn hA hb).mono (fun _ _ p => h.refq p)
set_option maxRecDepth 100000 in
theorem pwq_begin {w0 w : World} {X : List (Nat × Obj)} {l d q r : Nat} {L L' : LS} {D D' : dSt} (h : PwE w0 w X l d q r L L' D D') (e : Int) : Calls Tryz.prog 26 #[Ptr q, .int .i64 e] w (PPw w0 X l d q r L (begL L' e) D D' (.int .i64 (begE L' e))) := by
  obtain ⟨OL, OD, OQ, OR, h⟩ := h
  obtain ⟨vL, t, s, hq⟩ := h.isq
  exact (q_begin hq e).mono (fun _ _ p => h.refq p)
set_option maxRecDepth 100000 in
theorem pwq_commit {w0 w : World} {X : List (Nat × Obj)} {l d q r n0 : Nat} {L L' : LS} {D D' : dSt} (h : PwE w0 w X l d q r L L' D D') (hk : L'.Ok) (hct : L'.ct ≤ 17) (hdk : DOk D' n0) (hn0 : n0 + L'.ct ≤ 800) (hsz : L'.fr + L'.ct ≤ D'.size) : Calls Tryz.prog 24 #[Ptr q] w (PPw w0 X l d q r L (comL L' D') D (comD L' D') (.int .i64 (comE L' D'))) := by
  obtain ⟨OL, OD, OQ, OR, h⟩ := h
  obtain ⟨vL, t, s, hq⟩ := h.isq
  exact (q_commit hq h.ro h.apq h.lt hk hct hdk hn0 hsz).mono (fun _ _ p => h.refc p)
set_option maxRecDepth 100000 in
theorem pwq_used {w0 w : World} {X : List (Nat × Obj)} {l d q r : Nat} {L L' : LS} {D D' : dSt} (h : PwE w0 w X l d q r L L' D D') (hk : L'.Ok) (hct : L'.ct ≤ 1000) : Calls Tryz.prog 35 #[Ptr q] w (Adding (.int .i64 (W.usedOf L'.G : Int)) w) := by
  obtain ⟨OL, OD, OQ, OR, h⟩ := h
  obtain ⟨vL, t, s, hq⟩ := h.isq
  exact q_used hq hk hct
theorem PWl.of_do {w0 w w' : World} {OL OD : Nat → Prop} {l p : Nat} {L : LS} {D D2 : dSt} (h : Wl w0 w OL OD l p L D) (hT : Touch OD w w') (hd : IsDO w' OD p D2) (v : Value) : PWl w0 w OL OD l p L D2 v (.returned v) w' :=
  ⟨rfl, OL, OD, ⟨h.log.touch hT (fun k q c => h.apart k q c), hd, h.apart, h.low, fun k q => Nat.lt_of_lt_of_le (h.lt k q) hT.size, h.adds.then hT (fun k hk c => by have := h.low k (.inr c); omega)⟩, hT.mono (fun k _ c => .inr c), fun _ c => .inl c⟩
set_option maxRecDepth 100000 in
theorem pw_cut {w0 w : World} {X : List (Nat × Obj)} {l d q r : Nat} {L L' : LS} {D D' : dSt} (h : PwE w0 w X l d q r L L' D D') (hs : 0 < D.size) (n : Int) : Calls Tryz.prog 28 #[Ptr d, .int .i64 n] w (PPw w0 X l d q r L L' (cutD D n) D' (.int .i64 (cutE n))) := by
  obtain ⟨OL, OD, OQ, OR, h⟩ := h
  obtain ⟨hb, wv, hd, h1, h2, h3⟩ := h.wl.disk
  by_cases hn : 0 ≤ n
  · rw [cutD, cutE, if_pos hn, if_pos hn]
    refine (cut_ok 0 d hb wv D n w hd hs hn).mono ?_
    rintro e w' ⟨rfl, hd', hT⟩
    exact h.prog (PWl.of_do h.wl (hT.mono (fun k _ c => by subst c; exact h1)) ⟨hb, wv, hd', h1, h2, h3⟩ _)
  · rw [cutD, cutE, if_neg hn, if_neg hn]
    refine (cut_bad d D.size n w (cellOf hd.box 0) hs (by omega)).mono ?_
    rintro e w' ⟨rfl, hw⟩
    rw [hw]
    exact h.prog (PWl.of_do h.wl (Touch.refl _ _) h.wl.disk _)
set_option maxRecDepth 100000 in
theorem pwq_cut {w0 w : World} {X : List (Nat × Obj)} {l d q r : Nat} {L L' : LS} {D D' : dSt} (h : PwE w0 w X l d q r L L' D D') (n : Int) : Calls Tryz.prog 29 #[Ptr r, .int .i64 n] w (PPw w0 X l d q r L L' D (cutD D' n) (.int .i64 (cutE n))) := by
  obtain ⟨OL, OD, OQ, OR, h⟩ := h
  exact (ro_cut h.ro n).mono (fun _ _ p => h.refd p)
set_option maxRecDepth 100000 in
theorem pw_spoil {w0 w : World} {X : List (Nat × Obj)} {l d q r n0 : Nat} {L L' : LS} {D D' : dSt} (h : PwE w0 w X l d q r L L' D D') (hk : DOk D n0) (hn : n0 ≤ 900) (i a : Int) (b : UInt8) : Calls Tryz.prog 32 #[Ptr d, .int .i64 i, .int .i64 a, .int .u8 (b.toNat : Int)] w (PPw w0 X l d q r L L' (spoilD D i a b) D' (.int .i64 (spoilE D i a))) := by
  obtain ⟨OL, OD, OQ, OR, h⟩ := h
  obtain ⟨hb, wv, hd, h1, h2, h3⟩ := h.wl.disk
  by_cases hi : 0 ≤ i ∧ i < D.size ∧ 0 ≤ a ∧ a < 256
  · rw [spoilE, spoilD, if_pos hi, if_pos hi]
    obtain ⟨m, rfl⟩ : ∃ m : Nat, i = (m : Int) := ⟨i.toNat, by omega⟩
    obtain ⟨c, rfl⟩ : ∃ c : Nat, a = (c : Int) := ⟨a.toNat, by omega⟩
    have := hk.waits
    refine (spoil_ok 0 d hb wv D m c b w hd (by omega) hi.2.1 (by omega)).mono ?_
    rintro e w' ⟨rfl, hd', hT⟩
    exact h.prog (PWl.of_do h.wl (hT.mono (fun k _ c => by rcases c with rfl | c; exact h2; exact h3 k c)) ⟨hb, wv, hd', h1, h2, h3⟩ _)
  · rw [spoilE, spoilD, if_neg hi, if_neg hi]
    refine (spoil_bad d D.size i a (b.toNat : Int) w (cellOf hd.box 0) hk.size hi).mono ?_
    rintro e w' ⟨rfl, hw⟩
    rw [hw]
    exact h.prog (PWl.of_do h.wl (Touch.refl _ _) h.wl.disk _)
set_option maxRecDepth 100000 in
theorem pwq_spoil {w0 w : World} {X : List (Nat × Obj)} {l d q r n0 : Nat} {L L' : LS} {D D' : dSt} (h : PwE w0 w X l d q r L L' D D') (hk : DOk D' n0) (hn : n0 ≤ 900) (i a : Int) (b : UInt8) : Calls Tryz.prog 33 #[Ptr r, .int .i64 i, .int .i64 a, .int .u8 (b.toNat : Int)] w (PPw w0 X l d q r L L' D (spoilD D' i a b) (.int .i64 (spoilE D' i a))) := by
  obtain ⟨OL, OD, OQ, OR, h⟩ := h
  exact (ro_spoil h.ro hk hn i a b).mono (fun _ _ p => h.refd p)
end Go.Proofs.YtllkplanjfnnmaaGreatDoor

/- Open, refused or with the power off, on both sides; a pair is opened. -/
namespace Go.Proofs.YtllkplanjfnnmaaGreatDoor
open Go.RowKit

set_option maxRecDepth 100000 in
theorem open_no {w : World} {O : Nat → Prop} {p : Nat} {D : dSt} (hD : IsDO w O p D) (hs0 : 0 < D.size) (hsz : D.size ≤ 4096) (fr ct ep : Int) (h1 : fr < 0 ∨ ct < 1 ∨ 10000 < ct ∨ D.size - ct < fr ∨ ep < 1 ∨ 1000000000 < ep) :
    Calls Tryz.prog 20 #[Ptr p, .int .i64 fr, .int .i64 ct, .int .i64 ep] w (Tells (.tuple #[.pointer none, .int .i64 2]) w) := by
  obtain ⟨hb, wv, hd, _, _, _⟩ := hD
  obtain ⟨sz, hsz2⟩ : ∃ sz, sz = D.size := ⟨_, rfl⟩
  have HSz := hid (fun w' (h' : w' = w) => show Calls Tryz.prog 47 #[Ptr p] w' (fun e w'' => e = .returned (.int .i64 sz) ∧ w'' = w) by subst h'; rw [hsz2]; exact size_any p D.size w' (cellOf hd.box 0) hs0)
  rw [← hsz2] at h1 hs0 hsz
  have d0 : (sz == 0) = false := beq_eq_false_iff_ne.2 (by omega)
  clear hd hsz2
  by_cases a1 : fr < 0
  · have b1 : decide (fr < 0) = true := by simpa using a1
    clear h1
    go_enter Tryz.func20, Tryz.ntmps20
    go_wp2_with (first | (go_at_call 47; refine (HSz.out _ rfl).mono ?_; rintro e _ ⟨rfl, hw⟩; rw [hw]; clear hw))
    go_ret2
    exact ⟨rfl, rfl⟩
  have b1 : decide (fr < 0) = false := by simpa using a1
  by_cases a2 : ct < 1
  · have b2 : decide (ct < 1) = true := by simpa using a2
    clear h1 a1
    go_enter Tryz.func20, Tryz.ntmps20
    go_wp2_with (first | (go_at_call 47; refine (HSz.out _ rfl).mono ?_; rintro e _ ⟨rfl, hw⟩; rw [hw]; clear hw))
    go_ret2
    exact ⟨rfl, rfl⟩
  have b2 : decide (ct < 1) = false := by simpa using a2
  by_cases a3 : 10000 < ct
  · have b3 : decide (10000 < ct) = true := by simpa using a3
    clear h1 a1 a2
    go_enter Tryz.func20, Tryz.ntmps20
    go_wp2_with (first | (go_at_call 47; refine (HSz.out _ rfl).mono ?_; rintro e _ ⟨rfl, hw⟩; rw [hw]; clear hw))
    go_ret2
    exact ⟨rfl, rfl⟩
  have b3 : decide (10000 < ct) = false := by simpa using a3
  have hc : 1 ≤ ct ∧ ct ≤ 10000 := by omega
  by_cases a4 : sz - ct < fr
  · have b4 : decide (sz - ct < fr) = true := by simpa using a4
    clear h1 a1 a2 a3 a4
    go_enter Tryz.func20, Tryz.ntmps20
    go_wp2_with (first | (go_at_call 47; refine (HSz.out _ rfl).mono ?_; rintro e _ ⟨rfl, hw⟩; rw [hw]; clear hw))
    go_ret2
    exact ⟨rfl, rfl⟩
  have b4 : decide (sz - ct < fr) = false := by simpa using a4
  by_cases a5 : ep < 1
  · have b5 : decide (ep < 1) = true := by simpa using a5
    clear h1 a1 a2 a3 a4
    go_enter Tryz.func20, Tryz.ntmps20
    go_wp2_with (first | (go_at_call 47; refine (HSz.out _ rfl).mono ?_; rintro e _ ⟨rfl, hw⟩; rw [hw]; clear hw))
    go_ret2
    exact ⟨rfl, rfl⟩
  have b5 : decide (ep < 1) = false := by simpa using a5
  have a6 : 1000000000 < ep := by omega
  have b6 : decide (1000000000 < ep) = true := by simpa using a6
  clear h1 a1 a2 a3 a4 a5
  go_enter Tryz.func20, Tryz.ntmps20
  go_wp2_with (first | (go_at_call 47; refine (HSz.out _ rfl).mono ?_; rintro e _ ⟨rfl, hw⟩; rw [hw]; clear hw))
  go_ret2
  exact ⟨rfl, rfl⟩
set_option maxRecDepth 100000 in
set_option maxHeartbeats 2000000 in
theorem find_off {w : World} {l p fr ct : Nat} {x3 x4 x5 x6 x7 x8 : Value} (hb : w.heap[l]? = some (.cells #[Ptr p, .int .i64 (fr : Int), .int .i64 (ct : Int), x3, x4, x5, x6, x7, x8] 83 (0, 0))) (hct : 1 ≤ ct ∧ ct ≤ 10000) (hfr : fr ≤ 4096) (hR : ∀ w' (i : Int), Adds w w' → 0 ≤ i → i = (fr : Int) → Calls Tryz.prog 36 #[Ptr p, .int .i64 i] w' (fun e w'' => e = .returned (.tuple #[.slice none 0 0, .int .i64 10]) ∧ w'' = w')) :
    Calls Tryz.prog 48 #[Ptr l] w (Adding (.int .i64 10) w) := by
  have HB := hid hb
  have HR := hid hR
  have c2 : w.cell? ⟨l, 2, none⟩ = some (.int .i64 (ct : Int)) := by have c := cellOf hb 2; simpa using c
  clear hb hR
  go_enter Tryz.func48, Tryz.ntmps48
  go_wp2_with fail
  go_step3
  go_wp2_with fail
  go_step3
  go_wp2_with fail
  go_loopw [3, 16] (fun v i wr => v = .slice none 0 0 ∧ i = .int .i64 0 ∧ Hid (Adds w wr)) (fun _ _ _ => 0)
  case atStart => exact ⟨rfl, rfl, Touch.refl _ _⟩
  case round =>
    obtain ⟨rfl, rfl, HI⟩ := hrel
    have c0 : wr.cell? ⟨l, 0, none⟩ = some (Ptr p) := by have c := cellOf (HI.out.at' HB.out id) 0; simpa using c
    have c1 : wr.cell? ⟨l, 1, none⟩ = some (.int .i64 (fr : Int)) := by have c := cellOf (HI.out.at' HB.out id) 1; simpa using c
    have h0 : decide ((0 : Int) < (ct : Int)) = true := by simp; omega
    have h1 : decide (0 < ct) = true := by simp; omega
    go_upto_region 5 with fail
    go_quiet (first | (go_at_call 36; refine Calls.quiet_of_same (HR.out _ _ (HI.out.trans (adds_drewN _ _)) (by omega) (by first | rfl | omega))))
    go_wp2_with fail
    (try rw [Exit.noGoto_ret])
    go_ret
    exact ⟨rfl, HI.out.trans (adds_drewN _ _)⟩
set_option maxRecDepth 100000 in
theorem open_off {w : World} {O : Nat → Prop} {p : Nat} {D : dSt} (hD : IsDO w O p D) (hs0 : 0 < D.size) (fr ct ep : Nat) (h1 : 1 ≤ ct) (h2 : ct ≤ 4000) (h3 : fr + ct ≤ D.size) (h4 : 1 ≤ ep) (h5 : ep ≤ 1000000000) (h6 : D.size ≤ 4096) (hon : D.left = 0) :
    Calls Tryz.prog 20 #[Ptr p, .int .i64 (fr : Int), .int .i64 (ct : Int), .int .i64 (ep : Int)] w (Adding (.tuple #[.pointer none, .int .i64 10]) w) := by
  have HF := hid (find_off (w := w.alloc (.cells #[Ptr p, .int .i64 (fr : Int), .int .i64 (ct : Int), .int .i64 (ep : Int), .bool true, .slice none 0 0, .int .i64 0, .int .i64 0, .slice none 0 0] 83)) (l := w.heap.size) (heap_alloc_new w _) ⟨h1, by omega⟩ (by omega) (fun w' i hA hi he => by
    obtain ⟨hb, wv, hd, _, _, _⟩ := hD.adds (((Touch.refl _ w).alloc _).trans hA)
    exact read_off p D.size i w' (cellOf hd.box 0) (by rw [cellOf hd.box 4, hon]; rfl) hs0 (by omega)))
  obtain ⟨hb, wv, hd, _, _, _⟩ := hD
  obtain ⟨sz, hsz⟩ : ∃ sz, sz = D.size := ⟨_, rfl⟩
  have HSz := hid (fun w' (h' : w' = w) => show Calls Tryz.prog 47 #[Ptr p] w' (fun e w'' => e = .returned (.int .i64 sz) ∧ w'' = w) by subst h'; rw [hsz]; exact size_any p D.size w' (cellOf hd.box 0) hs0)
  obtain ⟨frz, hfrz⟩ : ∃ frz : Int, frz = fr := ⟨_, rfl⟩
  obtain ⟨ctz, hctz⟩ : ∃ ctz : Int, ctz = ct := ⟨_, rfl⟩
  obtain ⟨epz, hepz⟩ : ∃ epz : Int, epz = ep := ⟨_, rfl⟩
  rw [← hsz] at h3 h6 hs0
  have d0 : (sz == 0) = false := beq_eq_false_iff_ne.2 (by omega)
  have d1 : decide (frz < 0) = false := by simp; omega
  have d2 : decide (ctz < 1) = false := by simp; omega
  have d3 : decide (10000 < ctz) = false := by simp; omega
  have d4 : decide (sz - ctz < frz) = false := by simp; omega
  have d5 : decide (epz < 1) = false := by simp; omega
  have d6 : decide (1000000000 < epz) = false := by simp; omega
  have hc1 : 0 ≤ ctz ∧ ctz ≤ 4000 := by omega
  have hbl := fun w => build_log5 p frz ctz epz w
  rw [← hfrz, ← hctz, ← hepz] at HF
  rw [← hfrz, ← hctz, ← hepz]
  clear hfrz hctz hepz hd hsz h1 h2 h3 h4 h5 hon
  go_enter Tryz.func20, Tryz.ntmps20
  go_wp2_with (first
    | (go_at_call 47; refine (HSz.out _ rfl).mono ?_; rintro e _ ⟨rfl, hw⟩; rw [hw]; clear hw)
    | (go_at_call 48; refine HF.out.mono ?_; rintro e w2 ⟨rfl, hA2⟩; have H2 := hid hA2; clear hA2))
  go_ret2
  exact ⟨rfl, ((Touch.refl _ w).alloc _).trans H2.out⟩
set_option maxRecDepth 100000 in
set_option maxHeartbeats 2000000 in
theorem q_group_off {w : World} {OQ OR : Nat → Prop} {q rp : Nat} {vL : Value} {t : List Pl} {s0 : Pl} {L : LS} {D : dSt} (h : IsQ w OQ q rp vL t s0 L) (hR : IsRO w OR rp D) (hon : D.left = 0) (hct : L.ct ≤ 17) (hct1 : 1 ≤ L.ct) (hfr : L.fr ≤ 4096) (h3 : L.fr + L.ct ≤ D.size) :
    Calls Tryz.prog 49 #[Ptr q, .int .i64 0] w (Adding (.tuple #[.slice none 0 0, .int .i64 10]) w) := by
  have HBx := hid h.box
  generalize L.ep = ep at *
  generalize L.fr = fr at *
  generalize L.ct = ct at *
  have HRd := hid (fun (w' : World) (hA : Adds w w') (iz : Int) (hiz : iz = (fr : Int)) => show Calls Tryz.prog 37 #[Ptr rp, .int .i64 iz] w' (fun e w'' => e = .returned (.tuple #[Str [], .int .i64 10]) ∧ w'' = w') by
    obtain ⟨hv, wv, hd, _⟩ := hR.adds hA
    exact rread_off 0 rp hv wv D iz w' hd (by omega) hon)
  clear h hR hon h3
  unfold Str at *
  go_enter Tryz.func49, Tryz.ntmps49
  go_wp2_with fail
  go_loopw [6, 7, 8] (fun v sv i wr => v = .slice none 0 0 ∧ sv = .int .i64 4 ∧ i = .int .i64 0 ∧ Hid (Adds w wr)) (fun _ _ _ _ => 0)
  case atStart => exact ⟨rfl, rfl, rfl, Touch.refl _ _⟩
  case round =>
    obtain ⟨rfl, rfl, rfl, HI⟩ := hrel
    have c2 : wr.cell? ⟨q, 2, none⟩ = some (.int .i64 (ct : Int)) := by have c := cellOf (HI.out.at' HBx.out id) 2; simpa using c
    have c0 : wr.cell? ⟨q, 0, none⟩ = some (Ptr rp) := by have c := cellOf (HI.out.at' HBx.out id) 0; simpa using c
    have c1 : wr.cell? ⟨q, 1, none⟩ = some (.int .i64 (fr : Int)) := by have c := cellOf (HI.out.at' HBx.out id) 1; simpa using c
    have h1 : decide ((ct : Int) ≤ 0) = false := by simp; omega
    have h2 : decide (ct ≤ 0) = false := by simp; omega
    have h3 : ¬ (ct : Int) ≤ 0 := by omega
    go_upto_region 8 with fail
    go_quiet (first | (go_at_call 37; refine Calls.quiet_of_same (HRd.out _ (HI.out.trans (adds_drewN _ _)) _ (by first | rfl | omega))))
    go_wp2_with fail
    go_ret2
    exact ⟨rfl, HI.out.trans (adds_drewN _ _)⟩
set_option maxRecDepth 100000 in
set_option maxHeartbeats 2000000 in
theorem q_open_off {w : World} {OR : Nat → Prop} {rp : Nat} {D : dSt} (hR : IsRO w OR rp D) (fr ct ep : Nat) (h1 : 1 ≤ ct) (h2 : ct ≤ 17) (h3 : fr + ct ≤ D.size) (h4 : 1 ≤ ep) (h5 : ep ≤ 1000000000) (h6 : D.size ≤ 4096) (hon : D.left = 0) :
    Calls Tryz.prog 21 #[Ptr rp, .int .i64 (fr : Int), .int .i64 (ct : Int), .int .i64 (ep : Int)] w (Adding (.tuple #[.pointer none, .int .i64 10]) w) := by
  have HU := hid (fun (wr : World) (h : OI w wr w.heap.size rp fr ct ep D []) => show Calls Tryz.prog 35 #[Ptr w.heap.size] wr (Adding (.int .i64 0) wr) by
    obtain ⟨vL, t, hq⟩ := h.isq
    exact q_used hq h.ok (by show ct ≤ 1000; omega))
  have HGr := hid (fun (wr w1 : World) (h : OI w wr w.heap.size rp fr ct ep D []) (hA : Adds wr w1) => show Calls Tryz.prog 49 #[Ptr w.heap.size, .int .i64 0] w1 (Adding (.tuple #[.slice none 0 0, .int .i64 10]) w1) by
    obtain ⟨vL, t, hq⟩ := h.isq
    exact q_group_off (hq.add hA) (hR.adds (h.adds.trans hA)) hon h2 h1 (by show fr ≤ 4096; omega) h3)
  have HSt := hid (OI.start w rp fr ct ep D (by omega) (by omega) h5)
  obtain ⟨hv, wv, hd, _, _, _⟩ := hR
  obtain ⟨g, cap, rfl, hcap, _, _, _⟩ := hd.heldAt
  have hs := hd.size
  have c0 : w.cell? ⟨rp, 0, none⟩ = some (.slice (some ⟨g, 0, none⟩) D.size.toNat cap) := cellOf hd.box 0
  have hq : ((D.size.toNat : Nat) : Int) = D.size := by omega
  generalize D.size.toNat = sn at *
  obtain ⟨frz, hfrz⟩ : ∃ frz : Int, frz = fr := ⟨_, rfl⟩
  obtain ⟨ctz, hctz⟩ : ∃ ctz : Int, ctz = ct := ⟨_, rfl⟩
  obtain ⟨epz, hepz⟩ : ∃ epz : Int, epz = ep := ⟨_, rfl⟩
  have d1 : decide (frz < 0) = false := by simp; omega
  have d2 : decide (ctz < 1) = false := by simp; omega
  have d3 : decide (10000 < ctz) = false := by simp; omega
  have d4 : decide ((sn : Int) - ctz < frz) = false := by simp; omega
  have d5 : decide (epz < 1) = false := by simp; omega
  have d6 : decide (1000000000 < epz) = false := by simp; omega
  have hc1 : 0 ≤ ctz ∧ ctz ≤ 4000 := by omega
  have hsn : (sn : Int) ≤ 4096 := by omega
  have hbl := fun w => build_rlog rp frz ctz epz w
  rw [← hfrz, ← hctz, ← hepz] at HSt
  rw [← hfrz, ← hctz, ← hepz]
  clear hfrz hctz hepz hd h1 h2 h3 h4 h5 h6 hon hs hq
  obtain ⟨q, hqs⟩ : ∃ q, q = w.heap.size := ⟨_, rfl⟩
  rw [← hqs] at HSt HU HGr
  go_enter Tryz.func21, Tryz.ntmps21
  go_wp2_with fail
  rw [← hqs]
  clear hqs
  go_loopw [] (fun wr => Hid (OI w wr q rp fr ct ep D [])) (fun _ => 0)
  case atStart => exact HSt
  case round =>
    have HI := hrel
    go_wp2_with (first
      | (go_at_call 35; refine (HU.out wr HI.out).mono ?_; rintro e w1 ⟨rfl, hA1⟩; have HA1 := hid hA1; clear hA1)
      | (go_at_call 49; refine (HGr.out wr w1 HI.out HA1.out).mono ?_; rintro e w2 ⟨rfl, hA2⟩; have HA2 := hid hA2; clear hA2))
    go_ret2
    exact ⟨rfl, HI.out.adds.trans (HA1.out.trans HA2.out)⟩
end Go.Proofs.YtllkplanjfnnmaaGreatDoor

/- A pair is opened. -/
namespace Go.Proofs.YtllkplanjfnnmaaGreatDoor
open Go.RowKit

/-- Both disks, without logs. -/
structure Pd (w0 w : World) (X : List (Nat × Obj)) (OD OR : Nat → Prop) (d r : Nat) (D D' : dSt) : Prop where
  dk : IsDO w OD d D
  ro : IsRO w OR r D'
  ap : ∀ k, OD k → ¬ OR k
  low : ∀ k, OD k ∨ OR k → w0.heap.size ≤ k
  lt : ∀ k, OD k ∨ OR k → k < w.heap.size
  base : Adds w0 w
  oth : ∀ x ∈ X, w.heap[x.1]? = some x.2 ∧ ¬ (OD x.1 ∨ OR x.1)
def PdE (w0 w : World) (X : List (Nat × Obj)) (d r : Nat) (D D' : dSt) : Prop := ∃ OD OR, Pd w0 w X OD OR d r D D'
set_option maxRecDepth 100000 in
theorem PwE.disks {w0 w : World} {X : List (Nat × Obj)} {l d q r : Nat} {L L' : LS} {D D' : dSt} (h : PwE w0 w X l d q r L L' D D') : PdE w0 w X d r D D' := by
  obtain ⟨OL, OD, OQ, OR, h⟩ := h
  refine ⟨OD, OR, h.wl.disk, h.ro, fun k c c' => h.ap k (.inr c) (.inr c'), fun k c => ?_, fun k c => ?_, h.wl.adds, fun x hx => ⟨(h.oth x hx).1, fun c => (h.oth x hx).2 ?_⟩⟩
  · rcases c with c | c
    · exact h.wl.low k (.inr c)
    · exact h.low k (.inr c)
  · rcases c with c | c
    · exact h.wl.lt k (.inr c)
    · exact h.lt k (.inr c)
  · rcases c with c | c
    · exact .inl (.inr c)
    · exact .inr (.inr c)
theorem Pd.adds {w0 w w' : World} {X : List (Nat × Obj)} {OD OR : Nat → Prop} {d r : Nat} {D D' : dSt} (h : Pd w0 w X OD OR d r D D') (hA : Adds w w') : Pd w0 w' X OD OR d r D D' :=
  ⟨h.dk.adds hA, h.ro.adds hA, h.ap, h.low, fun k c => Nat.lt_of_lt_of_le (h.lt k c) hA.size, h.base.trans hA, fun x hx => ⟨hA.at' (h.oth x hx).1 id, (h.oth x hx).2⟩⟩
set_option maxRecDepth 100000 in
theorem PdE.adds {w0 w w' : World} {X : List (Nat × Obj)} {d r : Nat} {D D' : dSt} (h : PdE w0 w X d r D D') (hA : Adds w w') : PdE w0 w' X d r D D' := by
  obtain ⟨OD, OR, h⟩ := h
  exact ⟨OD, OR, h.adds hA⟩
set_option maxRecDepth 100000 in
/-- Logs on both disks. -/
theorem Pd.logs {w0 w w1 w2 : World} {X : List (Nat × Obj)} {OD OR : Nat → Prop} {l d q r : Nat} {L L' : LS} {D D' : dSt} (h : Pd w0 w X OD OR d r D D') (h1 : IsLog w1 (fun k => w.heap.size ≤ k ∧ k < w1.heap.size) l d L ∧ Adds w w1) (h2 : ∃ vL t s, IsQ w2 (fun k => w1.heap.size ≤ k ∧ k < w2.heap.size) q r vL t s L' ∧ Adds w1 w2) : PwE w0 w2 X l d q r L L' D D' := by
  obtain ⟨vL, t, s, hq, hA2⟩ := h2
  have z1 := h1.2.size
  have z2 := hA2.size
  have z0 := h.base.size
  have h' := h.adds (h1.2.trans hA2)
  refine ⟨_, OD, _, OR, ⟨h1.1.adds hA2, h'.dk, fun k c c' => ?_, fun k c => ?_, fun k c => ?_, h'.base⟩, ⟨vL, t, s, hq⟩, h'.ro, fun k c c' => ?_, fun k c c' => ?_, fun k c => ?_, fun k c => ?_, fun x hx => ⟨(h'.oth x hx).1, fun c => ?_⟩⟩
  · have := h.lt k (.inl c'); omega
  · rcases c with c | c
    · omega
    · exact h.low k (.inl c)
  · rcases c with c | c
    · omega
    · have := h.lt k (.inl c); omega
  · have := h.lt k (.inr c'); omega
  · rcases c with c | c <;> rcases c' with c' | c'
    · omega
    · have := h.lt k (.inr c'); omega
    · have := h.lt k (.inl c); omega
    · exact h.ap k c c'
  · rcases c with c | c
    · omega
    · exact h.low k (.inr c)
  · rcases c with c | c
    · exact c.2
    · have := h.lt k (.inr c); omega
  · have hx1 := (Array.getElem?_eq_some_iff.1 (h.oth x hx).1).1
    have hx2 := (h.oth x hx).2
    rcases c with (c | c) | c | c
    · omega
    · exact hx2 (.inl c)
    · omega
    · exact hx2 (.inr c)
/-- The pair's box. -/
abbrev PBox (d r : Nat) (vl vq : Value) : Obj := .cells #[Ptr d, Ptr r, vl, vq] 35 (0, 0)
def opOk (D : dSt) (fr ct ep : Int) : Prop := ¬ (fr < 0 ∨ ct < 1 ∨ 10000 < ct ∨ D.size - ct < fr ∨ ep < 1 ∨ 1000000000 < ep) ∧ D.left ≠ 0
/-- What a pair's open leaves. -/
def POpn (w0 w : World) (X : List (Nat × Obj)) (pp d r : Nat) (D : dSt) (fr ct ep : Int) (e : Ending) (w' : World) : Prop := e = .returned (.bool true) ∧ Hid ((¬ opOk D fr ct ep ∧ Adds w w') ∨ (opOk D fr ct ep ∧ ∃ l q, PwE w0 w' ((pp, PBox d r (Ptr l) (Ptr q)) :: X) l d q r (opL fr.toNat ct.toNat ep.toNat (secOf D fr.toNat)) (opL fr.toNat ct.toNat ep.toNat (secOf D fr.toNat)) D D))
set_option maxRecDepth 100000 in
theorem eq_ptr_none (w : World) : (binOp .eql 32 (.pointer none) (.pointer none)).run Tryz.prog w = .ok (.bool true) w := by kernel_rfl
set_option maxRecDepth 100000 in
theorem eq_ptr_some (l : Nat) (w : World) : (binOp .eql 32 (Ptr l) (.pointer none)).run Tryz.prog w = .ok (.bool false) w := by kernel_rfl
set_option maxRecDepth 100000 in
set_option maxHeartbeats 2000000 in
theorem p_open {w0 w : World} {X : List (Nat × Obj)} {pp d r n0 : Nat} {vl vq : Value} {D : dSt} (h : PdE w0 w ((pp, PBox d r vl vq) :: X) d r D D) (hpp : w0.heap.size ≤ pp) (hX : ∀ x ∈ X, x.1 ≠ pp) (hk : DOk D n0) (hn0 : n0 ≤ 900) (hsz : D.size ≤ 10) (hT : Tab w0) (fr ct ep : Int) :
    Calls Tryz.prog 7 #[Ptr pp, .int .i64 fr, .int .i64 ct, .int .i64 ep] w (POpn w0 w X pp d r D fr ct ep) := by
  obtain ⟨OD, OR, h⟩ := h
  have hb : w.heap[pp]? = some (PBox d r vl vq) := (h.oth _ List.mem_cons_self).1
  have c0 : w.cell? ⟨pp, 0, none⟩ = some (Ptr d) := by have c := cellOf hb 0; simpa using c
  have c1 : w.cell? ⟨pp, 1, none⟩ = some (Ptr r) := by have c := cellOf hb 1; simpa using c
  have hs0 := hk.size
  by_cases hbad : fr < 0 ∨ ct < 1 ∨ 10000 < ct ∨ D.size - ct < fr ∨ ep < 1 ∨ 1000000000 < ep
  · have HA := hid (open_no h.dk hs0 (by omega) fr ct ep hbad)
    have HB := hid (q_open_no h.ro fr ct ep hbad (by omega))
    have HN := hid (show ¬ opOk D fr ct ep from fun c => c.1 hbad)
    clear hbad h hb
    go_enter Tryz.func7, Tryz.ntmps7
    go_wp2_with (first
      | (go_at_call 20; refine HA.out.mono ?_; rintro e _ ⟨rfl, hw⟩; rw [hw]; clear hw)
      | (go_at_call 21; refine HB.out.mono ?_; rintro e _ ⟨rfl, hw⟩; rw [hw]; clear hw))
    go_ret
    exact ⟨rfl, .inl ⟨HN.out, Touch.refl _ _⟩⟩
  · obtain ⟨a, rfl⟩ : ∃ a : Nat, fr = (a : Int) := ⟨fr.toNat, by omega⟩
    obtain ⟨b, rfl⟩ : ∃ b : Nat, ct = (b : Int) := ⟨ct.toNat, by omega⟩
    obtain ⟨c, rfl⟩ : ∃ c : Nat, ep = (c : Int) := ⟨ep.toNat, by omega⟩
    by_cases hon : D.left = 0
    · have HA := hid (open_off h.dk hs0 a b c (by omega) (by omega) (by omega) (by omega) (by omega) (by omega) hon)
      have HB := hid (fun w1 (hA : Adds w w1) => q_open_off (h.ro.adds hA) a b c (by omega) (by omega) (by omega) (by omega) (by omega) (by omega) hon)
      have HN := hid (show ¬ opOk D a b c from fun q => q.2 hon)
      have HBx := hid hb
      clear hbad h hb hon
      go_enter Tryz.func7, Tryz.ntmps7
      go_wp2_with (first
        | (go_at_call 20; refine HA.out.mono ?_; rintro e w1 ⟨rfl, hA1⟩; have HA1 := hid hA1; have c11 : w1.cell? ⟨pp, 1, none⟩ = some (Ptr r) := below_adds hA1 c1; clear hA1)
        | (go_at_call 21; refine (HB.out w1 HA1.out).mono ?_; rintro e w2 ⟨rfl, hA2⟩; have HA2 := hid hA2; clear hA2))
      go_ret
      exact ⟨rfl, .inl ⟨HN.out, HA1.out.trans HA2.out⟩⟩
    · have HA := hid (open_ok h.dk hk hn0 (hT.adds h.base) (fun k c => h.lt k (.inl c)) a b c (by omega) (by omega) (by omega) (by omega) (by omega) (by omega) hon)
      have HB := hid (fun w1 (hA : Adds w w1) => q_open (h.ro.adds hA) hk hn0 a b c (by omega) (by omega) (by omega) (by omega) (by omega) (by omega) hon)
      have HY := hid (show opOk D a b c from ⟨hbad, hon⟩)
      have HP := hid h
      have HBx := hid hb
      have HPP := hid (And.intro hpp hX)
      have hep := eq_ptr_some
      clear hbad h hb hon hpp hX
      go_enter Tryz.func7, Tryz.ntmps7
      go_wp2_with (first
        | (go_at_call 20; refine HA.out.mono ?_; rintro e w1 ⟨l, rfl, H1⟩; have c11 : w1.cell? ⟨pp, 1, none⟩ = some (Ptr r) := below_adds H1.out.2 c1)
        | (go_at_call 21; refine (HB.out w1 H1.out.2).mono ?_; rintro e w2 ⟨q, rfl, H2⟩
           have HW := hid (HP.out.logs H1.out H2.out)
           have HB2 := hid (HW.out.other _ List.mem_cons_self)
           have c22 : w2.cell? ⟨pp, 2, none⟩ = some vl := by have c := cellOf HB2.out 2; simpa using c
           have c32 : w2.cell? ⟨pp, 3, none⟩ = some vq := by have c := cellOf HB2.out 3; simpa using c
           have f22 : w2.frozen? ⟨pp, 2, none⟩ = false := frozen_of_row w2 pp 2 _ 35 HB2.out
           have f32 : w2.frozen? ⟨pp, 3, none⟩ = false := frozen_of_row w2 pp 3 _ 35 HB2.out))
      go_ret
      refine ⟨rfl, .inr ⟨HY.out, l, q, ?_⟩⟩
      have hT2 : Touch (fun k => k = pp) w2 ((w2.setCell ⟨pp, 2, none⟩ (Ptr l)).setCell ⟨pp, 3, none⟩ (Ptr q)) := Touch.setCell (T := fun k => k = pp) (Touch.setCell (T := fun k => k = pp) (Touch.refl _ w2) (p := ⟨pp, 2, none⟩) (fun _ => rfl) _) (p := ⟨pp, 3, none⟩) (fun _ => rfl) _
      refine HW.out.turn hT2 (fun k c => ⟨⟨_, List.mem_cons_self, c.symm⟩, by rw [c]; exact HPP.out.1⟩) (fun y hy => ?_)
      rcases List.mem_cons.1 hy with rfl | hy
      · refine ⟨⟨_, List.mem_cons_self, rfl⟩, ?_⟩
        exact heap_setCell_same _ pp 3 _ 35 _ (heap_setCell_same w2 pp 2 _ 35 _ HB2.out)
      · exact ⟨⟨y, List.mem_cons_of_mem _ hy, rfl⟩, hT2.at' (HW.out.other y (List.mem_cons_of_mem _ hy)) (HPP.out.2 y hy)⟩
end Go.Proofs.YtllkplanjfnnmaaGreatDoor

/- A pair's disks have the same bytes. -/
namespace Go.Proofs.YtllkplanjfnnmaaGreatDoor
open Go.RowKit

set_option maxRecDepth 100000 in
set_option maxHeartbeats 2000000 in
theorem p_disks {w0 w : World} {X : List (Nat × Obj)} {pp l d q r n0 : Nat} {vl vq : Value} {L L' : LS} {D : dSt} (h : PwE w0 w X l d q r L L' D D) (hX : (pp, PBox d r vl vq) ∈ X) (hk : DOk D n0) (hn0 : n0 ≤ 900) (hsz : D.size ≤ 4096) :
    Calls Tryz.prog 10 #[Ptr pp] w (Adding (.bool true) w) := by
  have hb : w.heap[pp]? = some (PBox d r vl vq) := h.other _ hX
  obtain ⟨OD, OR, h⟩ := h.disks
  obtain ⟨hv, wv, hd, _, _, _⟩ := h.ro
  obtain ⟨g, cap, rfl, hcap, _, _, _⟩ := hd.heldAt
  have hs := hd.size
  have HBx := hid hb
  have c1 : w.cell? ⟨pp, 1, none⟩ = some (Ptr r) := by have c := cellOf hb 1; simpa using c
  have cr : w.cell? ⟨r, 0, none⟩ = some (.slice (some ⟨g, 0, none⟩) D.size.toNat cap) := cellOf hd.box 0
  obtain ⟨sn, hsn⟩ : ∃ sn, sn = D.size.toNat := ⟨_, rfl⟩
  rw [← hsn] at cr
  have hsn2 : sn ≤ 4096 := by omega
  have HSN := hid (show (sn : Int) = D.size by omega)
  by_cases hon : D.left = 0
  · obtain ⟨s, hs⟩ : ∃ s : List UInt8, s = [] := ⟨_, rfl⟩
    have HA := hid (fun (w' : World) (hA : Adds w w') (i : Nat) (hi : i < sn) => show Calls Tryz.prog 36 #[Ptr d, .int .i64 (i : Int)] w' (fun e w'' => e = .returned (.tuple #[.slice none 0 0, .int .i64 10]) ∧ w'' = w') by
      obtain ⟨hb', wv', hd', _, _, _⟩ := h.dk.adds hA
      exact read_off d D.size i w' (cellOf hd'.box 0) (by rw [cellOf hd'.box 4, hon]; rfl) hk.size (by omega))
    have HB := hid (fun (w' : World) (hA : Adds w w') (i : Nat) (hi : i < sn) => show Calls Tryz.prog 37 #[Ptr r, .int .i64 (i : Int)] w' (Tells (.tuple #[.string ⟨s.toArray⟩, .int .i64 10]) w') from
      ro_read (h.ro.adds hA) hk hn0 i (by omega) s 10 (by rw [rdS, if_pos hon, hs]) (by rw [if_pos hon]))
    have hcv : ∀ w' : World, (convert 56 9 (.slice none 0 0)).run Tryz.prog w' = .ok (.string ⟨s.toArray⟩) w' := fun w' => by rw [hs]; exact conv_at w' none [] 0 (At.nil _ _)
    have hss : (s == s) = true := by simp
    clear hs
    clear h hd hb hsn hon hk hcap
    go_enter Tryz.func10, Tryz.ntmps10
    go_wp2_with fail
    go_loopw [16] (fun i wr => ∃ k : Nat, k ≤ sn ∧ i = .int .i64 (k : Int) ∧ Hid (Adds w wr)) (fun i _ => sn - (intOf i).toNat)
    case atStart => exact ⟨0, Nat.zero_le _, rfl, Touch.refl _ _⟩
    case round =>
      obtain ⟨k, hk, rfl, HI⟩ := hrel
      by_cases hlt : k < sn
      · have d0 : wr.cell? ⟨pp, 0, none⟩ = some (Ptr d) := by have c := cellOf (HI.out.at' HBx.out id) 0; simpa using c
        have d1 : wr.cell? ⟨pp, 1, none⟩ = some (Ptr r) := by have c := cellOf (HI.out.at' HBx.out id) 1; simpa using c
        have HA1 := hid (HA.out wr HI.out k hlt)
        have HB1 := hid (HB.out wr HI.out k hlt)
        go_wp2_with (first
          | (go_at_call 36; refine HA1.out.mono ?_; rintro e _ ⟨rfl, hw⟩; rw [hw]; clear hw)
          | (go_at_call 37; refine HB1.out.mono ?_; rintro e _ ⟨rfl, hw⟩; rw [hw]; clear hw))
        go_roundw
        case rel => exact ⟨k + 1, by omega, by go_num, HI.out⟩
        case measure => simp [intOf]; omega
      · obtain rfl : k = sn := by omega
        go_wp2_with fail
        go_ret
        exact ⟨rfl, HI.out⟩
  · have HA := hid (fun (w' : World) (hA : Adds w w') (i : Nat) (hi : i < sn) => dread_any (h.dk.adds hA) hk hn0 hon (i : Int) (by omega))
    have HB := hid (fun (w' : World) (hA : Adds w w') (i : Nat) (hi : i < sn) (s : List UInt8) (hs : s = hasOf D.H D.W (i : Int)) => show Calls Tryz.prog 37 #[Ptr r, .int .i64 (i : Int)] w' (Tells (.tuple #[.string ⟨s.toArray⟩, .int .i64 0]) w') from
      ro_read (h.ro.adds hA) hk hn0 i (by omega) s 0 (by rw [rdS, if_neg hon, hs]) (by rw [if_neg hon]))
    clear h hd hb hsn hon hk hcap
    go_enter Tryz.func10, Tryz.ntmps10
    go_wp2_with fail
    go_loopw [16] (fun i wr => ∃ k : Nat, k ≤ sn ∧ i = .int .i64 (k : Int) ∧ Hid (Adds w wr)) (fun i _ => sn - (intOf i).toNat)
    case atStart => exact ⟨0, Nat.zero_le _, rfl, Touch.refl _ _⟩
    case round =>
      obtain ⟨k, hk, rfl, HI⟩ := hrel
      by_cases hlt : k < sn
      · have d0 : wr.cell? ⟨pp, 0, none⟩ = some (Ptr d) := by have c := cellOf (HI.out.at' HBx.out id) 0; simpa using c
        obtain ⟨s, hs⟩ : ∃ s, s = hasOf D.H D.W (k : Int) := ⟨_, rfl⟩
        have HA1 := hid (show Calls Tryz.prog 36 #[Ptr d, .int .i64 (k : Int)] wr (PSec wr s) by rw [hs]; exact HA.out wr HI.out k hlt)
        have HB1 := hid (fun w1 (hA : Adds wr w1) => HB.out w1 (HI.out.trans hA) k hlt s hs)
        have hss : (s == s) = true := by simp
        clear hs
        go_wp2_with (first
          | (go_at_call 36; refine HA1.out.mono ?_; rintro e w1 ⟨sg, scap, rfl, H1⟩
             have d11 : w1.cell? ⟨pp, 1, none⟩ = some (Ptr r) := by have c := cellOf ((HI.out.trans H1.out.2.2).at' HBx.out id) 1; simpa using c
             have hcv := conv_at w1 (some ⟨sg, 0, none⟩) s scap H1.out.1
             rw [H1.out.2.1] at hcv)
          | (go_at_call 37; refine (HB1.out w1 H1.out.2.2).mono ?_; rintro e _ ⟨rfl, hw⟩; rw [hw]; clear hw))
        go_roundw
        case rel => exact ⟨k + 1, by omega, by go_num, HI.out.trans H1.out.2.2⟩
        case measure => simp [intOf]; omega
      · obtain rfl : k = sn := by omega
        go_wp2_with fail
        go_ret
        exact ⟨rfl, HI.out⟩
end Go.Proofs.YtllkplanjfnnmaaGreatDoor

/- What a log tells of its groups may be turned: none of its bytes is marked. -/
namespace Go.Proofs.YtllkplanjfnnmaaGreatDoor
open Go.RowKit

/-- No byte of a part is marked. -/
def UFz (w : World) (x : Part) : Prop := ∀ j, j < x.bs.length → ∀ b o, x.a = some ⟨b, o, none⟩ → w.frozen? ⟨b, o + j, none⟩ = false
set_option maxRecDepth 100000 in
theorem frozen_block {w w' : World} {b : Nat} (h : w'.heap[b]? = w.heap[b]?) (j : Nat) : w'.frozen? ⟨b, j, none⟩ = w.frozen? ⟨b, j, none⟩ := by unfold World.frozen?; rw [h]
set_option maxRecDepth 100000 in
theorem UFz.touch {w w' : World} {Q T : Nat → Prop} {x : Part} (h : UFz w x) (hP : PQ w Q x) (hT : Touch T w w') (hn : ∀ k, Q k → ¬ T k) : UFz w' x := by
  intro j hj b o e
  have hx : (S x.bs)[j]? = some (B8 (x.bs[j])) := by rw [S_get, List.getElem?_eq_getElem hj]; rfl
  obtain ⟨b', o', e', hq, hc⟩ := hP.at_ j _ hx
  rw [e] at e'
  cases e'
  rw [frozen_block (hT.block b (World.block_lt_of_cell? w _ hc) (hn b hq))]
  exact h j hj b o e
set_option maxRecDepth 100000 in
theorem str_partU (bs : List UInt8) (w : World) : ∃ cap w1, (convert 9 56 (.string ⟨bs.toArray⟩)).run Tryz.prog w = .ok (.slice (some ⟨w.heap.size, 0, none⟩) bs.length cap) w1 ∧ PQ w1 (fun k => k = w.heap.size) ⟨some ⟨w.heap.size, 0, none⟩, bs, cap⟩ ∧ Adds w w1 ∧ UFz w1 ⟨some ⟨w.heap.size, 0, none⟩, bs, cap⟩ := by
  have q := run_bytes_of_string (P := Tryz.prog) w 9 56 5 ⟨bs.toArray⟩ Tryz.underlying9 Tryz.underlying56 Tryz.underlying5
  have hg : (w.drew.alloc (Obj.cells (bytesRow ⟨bs.toArray⟩ (grownCap w (ByteArray.size ⟨bs.toArray⟩) 0 5)) 5 ((bytesRow ⟨bs.toArray⟩ (grownCap w (ByteArray.size ⟨bs.toArray⟩) 0 5)).size, (bytesRow ⟨bs.toArray⟩ (grownCap w (ByteArray.size ⟨bs.toArray⟩) 0 5)).size + 1))).heap[w.heap.size]? = some _ := heap_alloc_new w.drew _
  have key : ∀ j c, bs[j]? = some c → (w.drew.alloc (Obj.cells (bytesRow ⟨bs.toArray⟩ (grownCap w (ByteArray.size ⟨bs.toArray⟩) 0 5)) 5 ((bytesRow ⟨bs.toArray⟩ (grownCap w (ByteArray.size ⟨bs.toArray⟩) 0 5)).size, (bytesRow ⟨bs.toArray⟩ (grownCap w (ByteArray.size ⟨bs.toArray⟩) 0 5)).size + 1))).cell? ⟨w.heap.size, 0 + j, none⟩ = some (.int .u8 (c.toNat : Int)) := fun j c hj => by
    have hlt : j < bs.length := (List.getElem?_eq_some_iff.1 hj).1
    rw [cell_of_row _ _ _ _ _ _ hg, Nat.zero_add, bytesRow_at _ _ j (by simpa using hlt)]
    rw [List.getElem?_eq_getElem hlt] at hj
    obtain rfl : bs[j] = c := by simpa using hj
    rfl
  have hA : At (w.drew.alloc (Obj.cells (bytesRow ⟨bs.toArray⟩ (grownCap w (ByteArray.size ⟨bs.toArray⟩) 0 5)) 5 ((bytesRow ⟨bs.toArray⟩ (grownCap w (ByteArray.size ⟨bs.toArray⟩) 0 5)).size, (bytesRow ⟨bs.toArray⟩ (grownCap w (ByteArray.size ⟨bs.toArray⟩) 0 5)).size + 1))) (some ⟨w.heap.size, 0, none⟩) bs := fun j c hj => ⟨_, _, rfl, key j c hj⟩
  refine ⟨_, _, q, ⟨hA.cq (fun b o e => by cases e; rfl), fun e => by cases e⟩, (Touch.refl _ w).drew.alloc _, fun j hj b o e => ?_⟩
  cases e
  have hc := key j (bs[j]'hj) (List.getElem?_eq_getElem hj)
  rw [cell_of_row _ _ _ _ _ _ hg] at hc
  have hlt := (Array.getElem?_eq_some_iff.1 hc).1
  unfold World.frozen?
  rw [hg]
  simp only [Bool.and_eq_false_iff, decide_eq_false_iff_not]
  left
  omega
def PRecsU (w : World) (ls : List (List UInt8)) (e : Ending) (w' : World) : Prop := ∃ v hs, e = .returned v ∧ Hid (Fresh w.heap.size w' v hs ∧ hs.map (·.bs) = ls ∧ Adds w w' ∧ ∀ x ∈ hs, UFz w' x)
set_option maxRecDepth 100000 in
set_option maxHeartbeats 2000000 in
theorem recordsU_any (a : Option Addr) (g : List UInt8) (n cap : Nat) (hn : g.length = n) (w : World) (hl : n ≤ 1000000) (hcap : a = none → cap = 0) (hA : At w a g) : Calls Tryz.prog 46 #[.slice a n cap] w (PRecsU w (W.recs g)) := by
  have HR := hid (show Calls Tryz.prog 71 #[.slice a n cap] w (PRead w g) by rw [← hn]; exact read_any a g cap w (by omega) hcap hA)
  obtain ⟨s0, hs0⟩ : ∃ s0, s0 = (M.uintR g.length ⟨0, g⟩).2 := ⟨_, rfl⟩
  obtain ⟨N, hN⟩ : ∃ N, N = (M.uintR g.length ⟨0, g⟩).1 := ⟨_, rfl⟩
  have hN1 : N ≤ n := by rw [hN, ← hn]; exact (M.uintR_lt _ _).2
  have HU := hid (fun w1 p (h : RD w1 (Ptr p) ⟨0, g⟩) => show Calls Tryz.prog 72 #[Ptr p, .int .u64 (n : Int)] w1 (PR w1 (Ptr p) (.int .u64 (N : Int)) s0) by rw [hN, hs0, ← hn]; exact uint_any g.length h)
  have HT := hid (fun w1 p s (h : RD w1 (Ptr p) s) => show Calls Tryz.prog 73 #[Ptr p, .int .i64 (n : Int)] w1 (PR w1 (Ptr p) (.string ⟨(M.textR (n : Int) s).1.toArray⟩) (M.textR (n : Int) s).2) from text_any (n : Int) (by omega) h)
  have HE := hid (fun w1 p s (h : RD w1 (Ptr p) s) => end_any h)
  have HQ := hid (show W.recs g = if M.endE (W.stN (n : Int) s0 N) = 0 then W.lsN (n : Int) s0 N else [] by rw [W.recs, W.recsM, hN, hs0, hn])
  clear hcap hA hs0 hN hn
  go_enter Tryz.func46, Tryz.ntmps46
  go_wp2_with (first
    | (go_at_call 71; refine HR.out.mono ?_; rintro e w1 ⟨p, rfl, hp, hr, hA1⟩; have H1 := hid (And.intro hp (And.intro hr hA1)); clear hp hr hA1)
    | (go_at_call 72; refine (HU.out w1 p H1.out.2.1).mono ?_; rintro e w2 ⟨rfl, hr2, hT2⟩; have H2 := hid (And.intro hr2 (Adds.own H1.out.2.2 hT2 H1.out.1)); clear hr2 hT2))
  go_loopw [4, 12] (fun v i wr => ∃ (k : Nat) (hs : List Part), k ≤ N ∧ i = .int .u64 (k : Int) ∧ hs.length = k ∧ Hid (Fresh (p + 1) wr v hs ∧ hs.map (·.bs) = W.lsN (n : Int) s0 k ∧ RD wr (Ptr p) (W.stN (n : Int) s0 k) ∧ Adds w wr ∧ ∀ x ∈ hs, UFz wr x)) (fun _ i _ => N - (intOf i).toNat)
  case atStart => exact ⟨0, [], by omega, rfl, rfl, Fresh.nil _ _, rfl, H2.out.1, H2.out.2, fun _ hx => (by cases hx)⟩
  case round =>
    obtain ⟨k, hs, hk, rfl, hlen, HI⟩ := hrel
    by_cases hlt : k < N
    · obtain ⟨t, ht⟩ : ∃ t, t = (M.textR (n : Int) (W.stN (n : Int) s0 k)).1 := ⟨_, rfl⟩
      have HX := hid (HT.out wr p _ HI.out.2.2.1)
      rw [← ht] at HX
      have HL := hid (And.intro ht hlen)
      clear ht hlen
      go_wp2_with (first
        | (go_at_call 73; refine HX.out.mono ?_; rintro e w3 ⟨rfl, hr3, hT3⟩
           obtain ⟨cx, w4, hrx, hpx, hAx, hUx⟩ := str_partU t w3
           have hF3 := HI.out.1.touch hT3 (fun k hk c => by simp only [Own1, Value.pointer.injEq, Option.some.injEq, Addr.mk.injEq] at c; omega)
           have HA3 := hid (show (w4.alloc (.cells #[.slice (some ⟨w3.heap.size, 0, none⟩) t.length cx] 56)).ownsRow 0 56 1 u4 k (hs.map PV) by have q := row_touch hF3.rows (hAx.alloc (.cells #[.slice (some ⟨w3.heap.size, 0, none⟩) t.length cx] 56)) (fun _ _ => id); rw [HL.out.2] at q; exact q)
           have HA4 := hid (show (w4.alloc (.cells #[.slice (some ⟨w3.heap.size, 0, none⟩) t.length cx] 56)).cell? ⟨w4.heap.size, 0, none⟩ = some (.slice (some ⟨w3.heap.size, 0, none⟩) t.length cx) from cellOf (heap_alloc_new w4 _) 0)
           have hU3 : ∀ x ∈ hs, UFz w3 x := fun x hx => (HI.out.2.2.2.2 x hx).touch (HI.out.1.data x hx) hT3 (fun k hk c => by simp only [Own1, Value.pointer.injEq, Option.some.injEq, Addr.mk.injEq] at c; omega)
           have H3 := hid (And.intro hr3 (And.intro hF3 (And.intro hpx (And.intro hAx (And.intro (Adds.own HI.out.2.2.2.1 hT3 H1.out.1) (And.intro hU3 hUx))))))
           clear hr3 hT3 hpx hAx hF3 hU3 hUx)
        | (at_builtin; refine append_b1 rfl _ _ rfl u4 k (hs.map PV) rfl HA3.out w4.heap.size (.slice (some ⟨w3.heap.size, 0, none⟩) t.length cx) rfl HA4.out rfl (by omega) ?_; intro v5 w5 G5; have HG := hid G5; clear G5))
      go_roundw
      case rel =>
        obtain ⟨hr3, hF3, hpx, hAx, hA3, hU3, hUx⟩ := H3.out
        have hAy : Adds w3 (w4.alloc (.cells #[.slice (some ⟨w3.heap.size, 0, none⟩) t.length cx] 56)) := hAx.alloc _
        have hp3 : p < w3.heap.size := hr3.lt
        have hG := HG.out
        refine ⟨k + 1, hs ++ [⟨some ⟨w3.heap.size, 0, none⟩, t, cx⟩], by omega, by go_num, by simp [HL.out.2], ?_, ?_, ?_, ?_, ?_⟩
        · refine hF3.more hAy (by rw [HL.out.2]; exact hG) hp3 ?_
          exact (hpx.adds ((Touch.refl _ w4).alloc _)).mono (fun j _ q => ⟨by omega, fun c => by have := (row_low hF3.rows c).2; omega⟩)
        · rw [List.map_append, HI.out.2.1, W.lsN, ← HL.out.1]; rfl
        · exact (hr3.above hAy (fun _ c => c.elim)).above hG.touch (fun j c => hF3.own j c)
        · exact (hA3.trans hAy).then hG.touch (fun j hj c => by have := hF3.own j c; have := H1.out.1; omega)
        · intro x hx
          rcases List.mem_append.1 hx with hx | hx
          · have q1 := (hU3 x hx).touch (hF3.data x hx) hAy (fun _ _ c => c.elim)
            exact q1.touch ((hF3.data x hx).adds hAy) hG.touch (fun k c => c.2)
          · obtain rfl := List.mem_singleton.1 hx
            have q1 := hUx.touch hpx ((Touch.refl (fun _ => False) w4).alloc (.cells #[.slice (some ⟨w3.heap.size, 0, none⟩) t.length cx] 56)) (fun _ _ c => c.elim)
            exact q1.touch (hpx.adds ((Touch.refl _ w4).alloc _)) hG.touch (fun k c c' => by have := (row_low hF3.rows c').2; omega)
      case measure => simp [intOf]; omega
    · obtain rfl : k = N := by omega
      have HX := hid (HE.out wr p _ HI.out.2.2.1)
      by_cases hz : M.endE (W.stN (n : Int) s0 k) = 0
      · rw [hz] at HX
        have HW := hid (show W.recs g = W.lsN (n : Int) s0 k by rw [HQ.out, if_pos hz])
        clear hz
        go_wp2_with (first | (go_at_call 74; refine HX.out.mono ?_; rintro e _ ⟨rfl, hw⟩; rw [hw]; clear hw))
        go_ret
        exact ⟨_, hs, rfl, HI.out.1.low (by have := H1.out.1; omega), by rw [HW.out]; exact HI.out.2.1, HI.out.2.2.2.1, HI.out.2.2.2.2⟩
      · have HW := hid (show W.recs g = [] by rw [HQ.out, if_neg hz])
        obtain ⟨z, hz2⟩ : ∃ z, z = M.endE (W.stN (n : Int) s0 k) := ⟨_, rfl⟩
        rw [← hz2] at HX hz
        have hz' : ¬ (z : Int) = 0 := by omega
        clear hz hz2
        go_wp2_with (first | (go_at_call 74; refine HX.out.mono ?_; rintro e _ ⟨rfl, hw⟩; rw [hw]; clear hw))
        go_ret
        exact ⟨_, [], rfl, Fresh.nil _ _, by rw [HW.out]; rfl, HI.out.2.2.2.1, fun _ hx => (by cases hx)⟩
/-- What a log's Groups tells, and that it may be turned. -/
def PGsU (w : World) (gs : List (List (List UInt8))) (e : Ending) (w' : World) : Prop := ∃ a c n, ∃ t : List Pl, e = .returned (.slice a n c) ∧ Hid (n = t.length ∧ CQ w' (fun k => w.heap.size ≤ k) a (t.map GV) ∧ (∀ g ∈ t, GQ w' (fun k => w.heap.size ≤ k) g) ∧ t.map Pl.bs = gs ∧ Adds w w' ∧ ∀ g ∈ t, ∀ x ∈ g.l, UFz w' x)
set_option maxRecDepth 100000 in
set_option maxHeartbeats 2000000 in
theorem lgroupsU_any {w : World} {O : Nat → Prop} {l p : Nat} {L : LS} (h : IsLog w O l p L) (hb : ∀ g ∈ L.G, g.length ≤ 1000000) (hn : L.G.length ≤ 10000) : Calls Tryz.prog 17 #[Ptr l] w (PGsU w (L.G.map W.recs)) := by
  obtain ⟨gv, tv, hs, h⟩ := h
  obtain ⟨ga, gc, hgv, hgc, hga, hgq⟩ := own_cq h.rows
  subst hgv
  obtain ⟨n, hnl⟩ : ∃ n, n = hs.length := ⟨_, rfl⟩
  have hn2 : n ≤ 10000 := by rw [hnl, show hs.length = L.G.length by rw [← h.bytes, List.length_map]]; exact hn
  have c5 : w.cell? ⟨l, 5, none⟩ = some (.slice ga n gc) := by rw [hnl]; exact cellOf h.box 5
  obtain ⟨i3, hi3, hz0, hz1, hz2⟩ := infoBB
  have B2 := hid (show i3.bytes * n ≤ 281474976710656 by rw [hz2]; omega)
  have B3 := hid (show n ≤ maxLen by unfold maxLen; omega)
  have HKE := hid (show ∀ w', w.grownBy w' none → w'.cell? ⟨l, 5, none⟩ = some (.slice ga n gc) ∧ Adds w w' from fun w' hg =>
    have hA : Adds w w' := Touch.grown (Touch.refl _ w) hg (fun k hk _ => by cases hk)
    ⟨below_adds hA c5, hA⟩)
  have HD := hid (show ∀ k (hk : k < n), ∃ x, hs[k]? = some x ∧ x.bs.length ≤ 1000000 ∧ PQ w (fun _ => True) x ∧ ∃ b o, ga = some ⟨b, o, none⟩ ∧ w.cell? ⟨b, o + k, none⟩ = some (.slice x.a x.bs.length x.cap) from fun k hk => by
    have hx : hs[k]? = some (hs[k]'(by omega)) := List.getElem?_eq_getElem (by omega)
    obtain ⟨b, o, e, _, hc⟩ := hgq k (PV (hs[k]'(by omega))) (by rw [List.getElem?_map, hx]; rfl)
    have hm : (hs[k]'(by omega)) ∈ hs := List.getElem_mem _
    exact ⟨_, hx, hb _ (by rw [← h.bytes]; exact List.mem_map_of_mem hm), (h.data _ hm).mono (fun _ _ _ => trivial), b, o, e, hc⟩)
  have HB := hid (show L.G.map W.recs = (hs.map (·.bs)).map W.recs by rw [h.bytes])
  have HL := hid hnl
  have HR := hid (fun (wr : World) (x : Part) (hl : x.bs.length ≤ 1000000) (hx : PQ wr (fun _ => True) x) => recordsU_any x.a x.bs x.bs.length x.cap rfl wr hl hx.non hx.at_.at)
  clear hb hgq hga hgc h hnl hn
  go_enter Tryz.func17, Tryz.ntmps17
  go_wp2_with (first
    | (at_make; refine wpList_make_own _ rfl _ _ 59 rfl 0 61 i3 (.slice none 0 0) 1 Tryz.underlying59 hi3 hz0 hz1 .i64 .i64 _ n rfl rfl rfl B2.out B3.out (Nat.zero_le _) ?_; intro w2 hown2 hg2; obtain ⟨c5', hA2⟩ := HKE.out w2 hg2
       have H2 := hid (And.intro hown2 hA2); clear hown2 hA2))
  go_loopw [3, 19] (fun v i wr => ∃ (k : Nat) (t : List Pl), k ≤ n ∧ i = .int .i64 (k : Int) ∧ t.length = k ∧ Hid (FreshT w.heap.size wr v t ∧ t.map Pl.bs = ((hs.map (·.bs)).map W.recs).take k ∧ Adds w wr ∧ ∀ g ∈ t, ∀ x ∈ g.l, UFz wr x)) (fun _ i _ => n - (intOf i).toNat)
  case atStart => exact ⟨0, [], Nat.zero_le _, rfl, rfl, ⟨H2.out.1, fun k hk => by cases hk; exact Nat.le_refl _, fun _ hx => (by cases hx)⟩, rfl, H2.out.2, fun _ hx => (by cases hx)⟩
  case round =>
    obtain ⟨k, t, hk, rfl, hlen, HI⟩ := hrel
    by_cases hlt : k < n
    · obtain ⟨x, hx, hxl, hxq, b, o, rfl, hxc⟩ := HD.out k hlt
      have hc : wr.cell? ⟨b, o + k, none⟩ = some (.slice x.a x.bs.length x.cap) := below_adds HI.out.2.2.1 hxc
      have HX := hid (HR.out wr x hxl (hxq.adds HI.out.2.2.1))
      have HN := hid (And.intro hx hlen)
      clear hx hxl hxq hxc HD hlen
      go_wp2_with (first
        | (go_at_call 46; refine HX.out.mono ?_; rintro e w3 ⟨v3, hs3, rfl, H3⟩
           obtain ⟨a3, c3, hv3, hq3⟩ := H3.out.1.pl
           subst hv3
           have HA3 := hid (show (w3.alloc (.cells #[.slice a3 hs3.length c3] 61)).ownsRow 0 61 1 u3 k (t.map GV) by have q := row_touch HI.out.1.rows (H3.out.2.2.1.alloc (.cells #[.slice a3 hs3.length c3] 61)) (fun _ _ => id); rw [HN.out.2] at q; exact q)
           have HA4 := hid (show (w3.alloc (.cells #[.slice a3 hs3.length c3] 61)).cell? ⟨w3.heap.size, 0, none⟩ = some (.slice a3 hs3.length c3) from cellOf (heap_alloc_new w3 _) 0)
           have HQ3 := hid hq3
           clear hq3)
        | (at_builtin; refine append_bb1 rfl _ _ rfl u3 k (t.map GV) rfl HA3.out w3.heap.size (.slice a3 hs3.length c3) rfl HA4.out rfl (by omega) ?_; intro v5 w5 G5; have HG := hid G5; clear G5))
      go_roundw
      case rel =>
        have hAy : Adds wr (w3.alloc (.cells #[.slice a3 hs3.length c3] 61)) := H3.out.2.2.1.alloc _
        have hws := HI.out.2.2.1.size
        refine ⟨k + 1, t ++ [⟨a3, c3, hs3⟩], by omega, by go_num, by simp [HN.out.2], ?_, ?_, ?_, ?_⟩
        · refine HI.out.1.more hAy (by rw [HN.out.2]; exact HG.out) hws ?_
          exact (HQ3.out.adds ((Touch.refl _ w3).alloc _)).mono (fun j _ q => ⟨by omega, fun c => by have := (row_low HI.out.1.rows c).2; omega⟩)
        · rw [List.map_append, HI.out.2.1, List.take_add_one, List.getElem?_map, List.getElem?_map, HN.out.1]
          simp only [Option.map_some, Option.toList_some, List.map_cons, List.map_nil]
          rw [← H3.out.2.1]; rfl
        · exact (HI.out.2.2.1.trans hAy).then HG.out.touch (fun j hj c => by have := HI.out.1.own j c; omega)
        · intro y hy x hx
          rcases List.mem_append.1 hy with hy | hy
          · have q1 := (HI.out.2.2.2 y hy x hx).touch ((HI.out.1.data y hy).all x hx) hAy (fun _ _ c => c.elim)
            exact q1.touch (((HI.out.1.data y hy).all x hx).adds hAy) HG.out.touch (fun k c => c.2)
          · obtain rfl := List.mem_singleton.1 hy
            have q0 := HQ3.out.all x hx
            have q1 := (H3.out.2.2.2 x hx).touch q0 ((Touch.refl (fun _ => False) w3).alloc (.cells #[.slice a3 hs3.length c3] 61)) (fun _ _ c => c.elim)
            exact q1.touch (q0.adds ((Touch.refl _ w3).alloc _)) HG.out.touch (fun k c c' => by have := (row_low HI.out.1.rows c').2; omega)
      case measure => simp [intOf]; omega
    · obtain rfl : k = n := by omega
      clear hlen
      go_wp2_with fail
      go_ret
      obtain ⟨ra, rc, re, _, rn, rq⟩ := own_cq HI.out.1.rows
      refine ⟨ra, rc, t.length, t, congrArg Ending.returned re, rfl, rq.mono (fun k _ c => HI.out.1.own k c), fun g hg => (HI.out.1.data g hg).mono (fun _ _ c => c.1), ?_, HI.out.2.2.1, HI.out.2.2.2⟩
      rw [HI.out.2.1, HB.out, List.take_of_length_le (by rw [List.length_map, List.length_map, ← HL.out]; exact Nat.le_refl _)]
end Go.Proofs.YtllkplanjfnnmaaGreatDoor

/- A pair tells the same on both sides. -/
namespace Go.Proofs.YtllkplanjfnnmaaGreatDoor
open Go.RowKit

set_option maxRecDepth 100000 in
theorem pw_groups {w0 w : World} {X : List (Nat × Obj)} {l d q r : Nat} {L L' : LS} {D D' : dSt} (h : PwE w0 w X l d q r L L' D D') (hk : L.Ok) (hct : L.ct ≤ 17) : Calls Tryz.prog 17 #[Ptr l] w (PGsU w (L.G.map W.recs)) := by
  obtain ⟨OL, OD, OQ, OR, h⟩ := h
  have hu := hk.us
  have hl := len_used L.G
  exact lgroupsU_any h.wl.log (fun g hg => by
    obtain ⟨a, b, e⟩ := List.append_of_mem hg
    rw [e, W.usedOf_app, W.usedOf] at hu
    have h3 : g.length ≤ 233 * 17 := secs_len (by omega)
    omega) (by omega)
set_option maxRecDepth 100000 in
theorem pl_lens {t : List Pl} {G : List (List UInt8)} (h : t.map Pl.bs = G.map W.recs) (hG : ∀ g ∈ G, W.Good g ∧ g.length ≤ 3961) : ∀ g ∈ t, g.l.length ≤ 1000000 := by
  intro x hx
  have hm : x.bs ∈ t.map Pl.bs := List.mem_map_of_mem hx
  rw [h] at hm
  obtain ⟨g, hg, e⟩ := List.mem_map.1 hm
  have h1 := W.recs_one (hG g hg).1.2
  have h2 := W.texts_len (W.recs g)
  have h3 := texts_le (W.recs g)
  rw [← h1] at h3
  have h4 := (hG g hg).2
  have h5 : x.bs.length = x.l.length := by simp [Pl.bs]
  rw [← e] at h5
  omega
theorem ok_lens {L : LS} (hk : L.Ok) (hct : L.ct ≤ 17) : ∀ g ∈ L.G, W.Good g ∧ g.length ≤ 3961 := fun g hg => by
  have hu := hk.us
  obtain ⟨a, b, e⟩ := List.append_of_mem hg
  rw [e, W.usedOf_app, W.usedOf] at hu
  have h3 : g.length ≤ 233 * 17 := secs_len (by omega)
  exact ⟨hk.good g hg, by omega⟩
/-- Bytes turn, all else stays. -/
def Trn (B : Nat) (w wr : World) : Prop := Touch (fun k => B ≤ k) w wr ∧ (∀ a v, w.cell? a = some v → (∀ z, v ≠ .int .u8 z) → wr.cell? a = some v) ∧ (∀ a z, w.cell? a = some (.int .u8 z) → ∃ z', wr.cell? a = some (.int .u8 z')) ∧ ∀ a, wr.frozen? a = w.frozen? a
theorem Trn.refl (B : Nat) (w : World) : Trn B w w := ⟨Touch.refl _ _, fun _ _ h _ => h, fun _ z h => ⟨z, h⟩, fun _ => rfl⟩
set_option maxRecDepth 100000 in
theorem Trn.set {B : Nat} {w wr : World} (h : Trn B w wr) {g j : Nat} {z : Int} (hc : w.cell? ⟨g, j, none⟩ = some (.int .u8 z)) (hB : B ≤ g) (z' : Int) : Trn B w (wr.setCell ⟨g, j, none⟩ (.int .u8 z')) := by
  refine ⟨Touch.setCell (T := fun k => B ≤ k) h.1 (p := ⟨g, j, none⟩) (fun _ => hB) _, fun a v ha hv => ?_, fun a z0 ha => ?_, fun a => by rw [World.frozen?_setCell]; exact h.2.2.2 a⟩
  · have hne : (⟨g, j, none⟩ : Addr) ≠ a := fun e => by rw [← e, hc] at ha; exact hv z (Option.some.inj ha).symm
    rw [World.cell?_setCell_other _ _ _ _ hne]
    exact h.2.1 a v ha hv
  · by_cases e : (⟨g, j, none⟩ : Addr) = a
    · obtain ⟨z1, h1⟩ := h.2.2.1 a z0 ha
      rw [← e] at h1 ⊢
      exact ⟨z', World.cell?_setCell_same _ _ _ h1⟩
    · rw [World.cell?_setCell_other _ _ _ _ e]
      exact h.2.2.1 a z0 ha
set_option maxRecDepth 100000 in
theorem pl_bytes {t : List Pl} {G : List (List UInt8)} (h : t.map Pl.bs = G.map W.recs) (hG : ∀ g ∈ G, W.Good g ∧ g.length ≤ 3961) : ∀ g ∈ t, ∀ x ∈ g.l, x.bs.length ≤ 1000000 := by
  intro y hy x hx
  have hm : y.bs ∈ t.map Pl.bs := List.mem_map_of_mem hy
  rw [h] at hm
  obtain ⟨g, hg, e⟩ := List.mem_map.1 hm
  have h1 := W.recs_one (hG g hg).1.2
  have h3 := texts_le (W.recs g)
  rw [← h1] at h3
  have h4 := (hG g hg).2
  have h5 : x.bs ∈ W.recs g := by rw [e]; exact List.mem_map_of_mem hx
  have h6 := W.texts_mem h5
  omega
set_option maxRecDepth 100000 in
theorem part_getU {w : World} {Q : Nat → Prop} {x : Pl} (h : GQ w Q x) {k : Nat} (hk : k < x.l.length) : ∃ (y : Part) (b o : Nat), y ∈ x.l ∧ PQ w Q y ∧ x.a = some ⟨b, o, none⟩ ∧ w.cell? ⟨b, o + k, none⟩ = some (.slice y.a y.bs.length y.cap) := by
  have hx : x.l[k]? = some x.l[k] := List.getElem?_eq_getElem hk
  obtain ⟨b, o, e, _, hc⟩ := h.at_ k (PV x.l[k]) (by rw [List.getElem?_map, hx]; rfl)
  exact ⟨_, b, o, List.getElem_mem _, h.all _ (List.getElem_mem _), e, hc⟩
set_option maxRecDepth 100000 in
theorem byte_getU {w : World} {Q : Nat → Prop} {y : Part} (h : PQ w Q y) (hu : UFz w y) {n : Nat} (hn : n < y.bs.length) : ∃ (b o : Nat) (z : Int), y.a = some ⟨b, o, none⟩ ∧ Q b ∧ w.cell? ⟨b, o + n, none⟩ = some (.int .u8 z) ∧ w.frozen? ⟨b, o + n, none⟩ = false := by
  obtain ⟨b, o, e, hq, hc⟩ := h.at_ n (B8 y.bs[n]) (by rw [S_get, List.getElem?_eq_getElem hn]; rfl)
  exact ⟨b, o, _, e, hq, hc, hu n hn b o e⟩
set_option maxRecDepth 100000 in
set_option maxHeartbeats 8000000 in
theorem p_alike {w0 w : World} {X : List (Nat × Obj)} {pp l d q r n0 : Nat} {L : LS} {D : dSt} (h : PwE w0 w X l d q r L L D D) (hX : (pp, PBox d r (Ptr l) (Ptr q)) ∈ X) (hk : L.Ok) (hct : L.ct ≤ 17) (hdk : DOk D n0) :
    Calls Tryz.prog 9 #[Ptr pp] w (PPw w0 X l d q r L L D D (.bool true)) := by
  have hb : w.heap[pp]? = some (PBox d r (Ptr l) (Ptr q)) := h.other _ hX
  have c2 : w.cell? ⟨pp, 2, none⟩ = some (Ptr l) := by have c := cellOf hb 2; simpa using c
  have HGr := hid (pw_groups h hk hct)
  have HP := hid h
  obtain ⟨OL, OD, OQ, OR, h⟩ := h
  obtain ⟨vL, t, s, hq⟩ := h.isq
  obtain ⟨la, lc, hvL, _, _, hlq⟩ := own_cq hq.rows
  obtain ⟨tn, htn⟩ : ∃ tn, tn = t.length := ⟨_, rfl⟩
  rw [← htn] at hvL
  subst hvL
  obtain ⟨m, hm⟩ : ∃ m, m = s.l.length := ⟨_, rfl⟩
  obtain ⟨us, hus⟩ : ∃ us, us = W.usedOf L.G := ⟨_, rfl⟩
  obtain ⟨st, hst⟩ : ∃ st, st = D.steps := ⟨_, rfl⟩
  have hmR : L.R.length = m := by rw [hm, ← hq.rest, Pl.bs, List.length_map]
  have hus2 : us ≤ L.ct := by rw [hus]; exact hk.us
  have hlen := len_used L.G
  have htn2 : tn ≤ 17 := by rw [htn, hq.len]; omega
  have HSame := hid (fun (w' : World) (a1 : Option Addr) (n1 c1 : Nat) (t1 : List Pl) (hA : Adds w w') (hn : n1 = t1.length) (h1 : CQ w' (fun k => w.heap.size ≤ k) a1 (t1.map GV)) (h2 : ∀ g ∈ t1, GQ w' (fun k => w.heap.size ≤ k) g) (h3 : t1.map Pl.bs = L.G.map W.recs) => show Calls Tryz.prog 34 #[.slice a1 n1 c1, .slice la tn lc] w' (Adding (.bool true) w') by
    have e : t1.map Pl.bs = t.map Pl.bs := by rw [h3, hq.same]
    have hn1 : n1 = tn := by rw [hn, htn]; have q1 := congrArg List.length e; rwa [List.length_map, List.length_map] at q1
    have q1 := same8 (Q2 := fun _ => True) a1 la c1 lc n1 tn t1 t w' hn.symm htn.symm h1 h2 ((hlq.adds hA).mono (fun _ _ _ => trivial)) (fun g hg => ((hq.data g hg).adds hA).mono (fun _ _ _ => trivial)) ⟨by omega, by omega⟩ ⟨pl_lens h3 (ok_lens hk hct), pl_lens hq.same (ok_lens hk hct)⟩
    rw [decide_eq_true e] at q1
    exact q1)
  have HWait := hid (fun (w' : World) (hA : Adds w w') => show Calls Tryz.prog 14 #[Ptr l] w' (Tells (.int .i64 (m : Int)) w') by rw [← hmR]; exact wl_waiting (h.wl.add hA))
  have HUsed := hid (fun (w' : World) (hA : Adds w w') => show Calls Tryz.prog 18 #[Ptr l] w' (Tells (.int .i64 (us : Int)) w') by rw [hus]; exact wl_used (h.wl.add hA))
  have HQU := hid (fun (w' : World) (hA : Adds w w') => show Calls Tryz.prog 35 #[Ptr q] w' (Adding (.int .i64 (us : Int)) w') by rw [hus]; exact q_used (hq.add hA) hk (by omega))
  obtain ⟨ct, hctl⟩ : ∃ ct, ct = L.ct := ⟨_, rfl⟩
  have HRoom := hid (fun (w' : World) (hA : Adds w w') => show Calls Tryz.prog 19 #[Ptr l] w' (Adding (.int .i64 ((ct : Int) - (us : Int))) w') by rw [hus, hctl]; exact wl_room (h.wl.add hA) hk)
  have HSt := hid (fun (w' : World) (hA : Adds w w') => show Calls Tryz.prog 15 #[Ptr d] w' (Tells (.int .i64 st) w') by rw [hst]; exact wl_steps (h.wl.add hA) hdk.size)
  have HBp := hid hb
  have HBq := hid (show w.heap[q]? = some (.cells #[Ptr r, .int .i64 (L.fr : Int), .int .i64 (ct : Int), .int .i64 (L.ep : Int), .bool L.cl, .slice la tn lc, .slice s.a m s.cap] 67 (0, 0)) by rw [hctl, hm]; exact hq.box)
  obtain ⟨hv, wv, hd, _, _, _⟩ := h.ro
  have HBr := hid (show w.heap[r]? = some (.cells #[hv, wv, .int .i64 st, .int .i64 D.left] 51 (0, 0)) by rw [hst]; exact hd.box)
  have hct2 : us ≤ ct ∧ ct ≤ 17 := by omega
  have HLn := hid (fun (t1 : List Pl) (h3 : t1.map Pl.bs = L.G.map W.recs) => show t1.length ≤ 1000 ∧ (∀ g ∈ t1, g.l.length ≤ 1000000) ∧ ∀ g ∈ t1, ∀ x ∈ g.l, x.bs.length ≤ 1000000 from ⟨by have q1 := congrArg List.length h3; rw [List.length_map, List.length_map] at q1; omega, pl_lens h3 (ok_lens hk hct), pl_bytes h3 (ok_lens hk hct)⟩)
  clear h hq hd hlq hb hX hk hct hdk htn hm hus hst hmR hus2 hlen hctl
  go_enter Tryz.func9, Tryz.ntmps9
  go_upto_region 2 with (first | (go_at_call 17; refine HGr.out.mono ?_; rintro e w1 ⟨a1, c1, n1, t1, rfl, H1⟩))
  have HA1 := hid H1.out.2.2.2.2.1
  refine H_begin (S := fun w' : World => Adds w1 w') (by kernel_rfl) ?_
  have hS : (fun w' : World => Adds w1 w') w1.drew := (Touch.refl _ w1).drew
  refine H_put (i := 0) 13 (v := .slice a1 n1 c1) rfl rfl (by kernel_rfl) (by kernel_rfl) (by kernel_rfl) (fun _ _ _ h => h) (Or.inl ⟨by rfl, fun w' hw' => ?_⟩) hS ?_
  · go_simp
  simp only [Act.put, List.setIfInBounds_toArray, List.set_cons_zero, List.set_cons_succ]
  refine H_put (i := 1) 14 (v := Ptr pp) rfl rfl (by kernel_rfl) (by kernel_rfl) (by kernel_rfl) (fun _ _ _ h => h) (Or.inl ⟨by rfl, fun w' hw' => ?_⟩) hS ?_
  · go_simp
  simp only [Act.put, List.setIfInBounds_toArray, List.set_cons_zero, List.set_cons_succ]
  refine H_put (i := 2) 15 (v := Ptr pp) rfl rfl (by kernel_rfl) (by kernel_rfl) (by kernel_rfl) (fun _ _ _ h => h) (Or.inl ⟨by rfl, fun w' hw' => ?_⟩) hS ?_
  · go_simp
  simp only [Act.put, List.setIfInBounds_toArray, List.set_cons_zero, List.set_cons_succ]
  refine H_put (i := 3) 16 (v := .pointer (some ⟨pp, 3, none⟩)) rfl rfl (by kernel_rfl) (by kernel_rfl) (by kernel_rfl) (fun _ _ _ h => h) (Or.inl ⟨by rfl, fun w' hw' => ?_⟩) hS ?_
  · go_simp
  simp only [Act.put, List.setIfInBounds_toArray, List.set_cons_zero, List.set_cons_succ]
  refine H_put (i := 4) 17 (v := Ptr q) rfl rfl (by kernel_rfl) (by kernel_rfl) (by kernel_rfl) (fun _ _ _ h => h) (Or.inl ⟨by rfl, fun w' hw' => ?_⟩) hS ?_
  · have c : w'.cell? ⟨pp, 3, none⟩ = some (Ptr q) := cellOf ((HA1.out.trans hw').at' HBp.out id) 3; go_simp
  simp only [Act.put, List.setIfInBounds_toArray, List.set_cons_zero, List.set_cons_succ]
  refine H_put (i := 5) 18 (v := Ptr q) rfl rfl (by kernel_rfl) (by kernel_rfl) (by kernel_rfl) (fun _ _ _ h => h) (Or.inl ⟨by rfl, fun w' hw' => ?_⟩) hS ?_
  · go_simp
  simp only [Act.put, List.setIfInBounds_toArray, List.set_cons_zero, List.set_cons_succ]
  refine H_put (i := 6) 19 (v := .pointer (some ⟨q, 5, none⟩)) rfl rfl (by kernel_rfl) (by kernel_rfl) (by kernel_rfl) (fun _ _ _ h => h) (Or.inl ⟨by rfl, fun w' hw' => ?_⟩) hS ?_
  · go_simp
  simp only [Act.put, List.setIfInBounds_toArray, List.set_cons_zero, List.set_cons_succ]
  refine H_put (i := 7) 20 (v := .slice la tn lc) rfl rfl (by kernel_rfl) (by kernel_rfl) (by kernel_rfl) (fun _ _ _ h => h) (Or.inl ⟨by rfl, fun w' hw' => ?_⟩) hS ?_
  · have c : w'.cell? ⟨q, 5, none⟩ = some (.slice la tn lc) := cellOf ((HA1.out.trans hw').at' HBq.out id) 5; go_simp
  simp only [Act.put, List.setIfInBounds_toArray, List.set_cons_zero, List.set_cons_succ]
  refine H_call (i := 8) 21 34 #[.slice a1 n1 c1, .slice la tn lc] (by kernel_rfl) rfl rfl (by rfl) (by go_simp) (HSame.out w1.drew a1 n1 c1 t1 (HA1.out.trans hS) H1.out.1 (H1.out.2.1.adds hS) (fun g hg => (H1.out.2.2.1 g hg).adds hS) H1.out.2.2.2.1) ?_
  rintro e w2 ⟨rfl, hA2⟩
  have HA2 := hid (hS.trans hA2)
  clear hA2
  have hS2 : (fun w' : World => Adds w1 w') _ := HA2.out
  refine ⟨_, _, rfl, hS2, fun w' h => h, ?_⟩
  clear hS; have hS := hS2; clear hS2
  simp only [Act.put, List.setIfInBounds_toArray, List.set_cons_zero, List.set_cons_succ]
  refine H_put (i := 9) 22 (v := .bool true) rfl rfl (by kernel_rfl) (by kernel_rfl) (by kernel_rfl) (fun _ _ _ h => h) (Or.inl ⟨by rfl, fun w' hw' => ?_⟩) hS ?_
  · go_simp
  simp only [Act.put, List.setIfInBounds_toArray, List.set_cons_zero, List.set_cons_succ]
  refine H_put (i := 10) 23 (v := Ptr pp) rfl rfl (by kernel_rfl) (by kernel_rfl) (by kernel_rfl) (fun _ _ _ h => h) (Or.inl ⟨by rfl, fun w' hw' => ?_⟩) hS ?_
  · go_simp
  simp only [Act.put, List.setIfInBounds_toArray, List.set_cons_zero, List.set_cons_succ]
  refine H_put (i := 11) 24 (v := Ptr pp) rfl rfl (by kernel_rfl) (by kernel_rfl) (by kernel_rfl) (fun _ _ _ h => h) (Or.inl ⟨by rfl, fun w' hw' => ?_⟩) hS ?_
  · go_simp
  simp only [Act.put, List.setIfInBounds_toArray, List.set_cons_zero, List.set_cons_succ]
  refine H_put (i := 12) 25 (v := .pointer (some ⟨pp, 2, none⟩)) rfl rfl (by kernel_rfl) (by kernel_rfl) (by kernel_rfl) (fun _ _ _ h => h) (Or.inl ⟨by rfl, fun w' hw' => ?_⟩) hS ?_
  · go_simp
  simp only [Act.put, List.setIfInBounds_toArray, List.set_cons_zero, List.set_cons_succ]
  refine H_put (i := 13) 26 (v := Ptr l) rfl rfl (by kernel_rfl) (by kernel_rfl) (by kernel_rfl) (fun _ _ _ h => h) (Or.inl ⟨by rfl, fun w' hw' => ?_⟩) hS ?_
  · have c : w'.cell? ⟨pp, 2, none⟩ = some (Ptr l) := cellOf ((HA1.out.trans hw').at' HBp.out id) 2; go_simp
  simp only [Act.put, List.setIfInBounds_toArray, List.set_cons_zero, List.set_cons_succ]
  refine H_put (i := 15) 28 (v := Ptr pp) rfl rfl (by kernel_rfl) (by kernel_rfl) (by kernel_rfl) (fun _ _ _ h => h) (Or.inl ⟨by rfl, fun w' hw' => ?_⟩) hS ?_
  · go_simp
  simp only [Act.put, List.setIfInBounds_toArray, List.set_cons_zero, List.set_cons_succ]
  refine H_put (i := 16) 29 (v := Ptr pp) rfl rfl (by kernel_rfl) (by kernel_rfl) (by kernel_rfl) (fun _ _ _ h => h) (Or.inl ⟨by rfl, fun w' hw' => ?_⟩) hS ?_
  · go_simp
  simp only [Act.put, List.setIfInBounds_toArray, List.set_cons_zero, List.set_cons_succ]
  refine H_put (i := 17) 30 (v := .pointer (some ⟨pp, 3, none⟩)) rfl rfl (by kernel_rfl) (by kernel_rfl) (by kernel_rfl) (fun _ _ _ h => h) (Or.inl ⟨by rfl, fun w' hw' => ?_⟩) hS ?_
  · go_simp
  simp only [Act.put, List.setIfInBounds_toArray, List.set_cons_zero, List.set_cons_succ]
  refine H_put (i := 18) 31 (v := Ptr q) rfl rfl (by kernel_rfl) (by kernel_rfl) (by kernel_rfl) (fun _ _ _ h => h) (Or.inl ⟨by rfl, fun w' hw' => ?_⟩) hS ?_
  · have c : w'.cell? ⟨pp, 3, none⟩ = some (Ptr q) := cellOf ((HA1.out.trans hw').at' HBp.out id) 3; go_simp
  simp only [Act.put, List.setIfInBounds_toArray, List.set_cons_zero, List.set_cons_succ]
  refine H_put (i := 19) 32 (v := Ptr q) rfl rfl (by kernel_rfl) (by kernel_rfl) (by kernel_rfl) (fun _ _ _ h => h) (Or.inl ⟨by rfl, fun w' hw' => ?_⟩) hS ?_
  · go_simp
  simp only [Act.put, List.setIfInBounds_toArray, List.set_cons_zero, List.set_cons_succ]
  refine H_put (i := 20) 33 (v := .pointer (some ⟨q, 6, none⟩)) rfl rfl (by kernel_rfl) (by kernel_rfl) (by kernel_rfl) (fun _ _ _ h => h) (Or.inl ⟨by rfl, fun w' hw' => ?_⟩) hS ?_
  · go_simp
  simp only [Act.put, List.setIfInBounds_toArray, List.set_cons_zero, List.set_cons_succ]
  refine H_put (i := 21) 34 (v := .slice s.a m s.cap) rfl rfl (by kernel_rfl) (by kernel_rfl) (by kernel_rfl) (fun _ _ _ h => h) (Or.inl ⟨by rfl, fun w' hw' => ?_⟩) hS ?_
  · have c : w'.cell? ⟨q, 6, none⟩ = some (.slice s.a m s.cap) := cellOf ((HA1.out.trans hw').at' HBq.out id) 6; go_simp
  simp only [Act.put, List.setIfInBounds_toArray, List.set_cons_zero, List.set_cons_succ]
  refine H_put (i := 22) 35 (v := .int .i64 (m : Int)) rfl rfl (by kernel_rfl) (by kernel_rfl) (by kernel_rfl) (fun _ _ _ h => h) (Or.inl ⟨by rfl, fun w' hw' => ?_⟩) hS ?_
  · go_simp
  simp only [Act.put, List.setIfInBounds_toArray, List.set_cons_zero, List.set_cons_succ]
  refine H_call (i := 14) 27 14 #[Ptr l] (by kernel_rfl) rfl rfl (by rfl) (by go_simp) (HWait.out w2 (HA1.out.trans hS)) ?_
  rintro e _ ⟨rfl, hw⟩
  rw [hw]
  clear hw
  have hS2 : (fun w' : World => Adds w1 w') _ := hS
  refine ⟨_, _, rfl, hS2, fun w' h => h, ?_⟩
  clear hS; have hS := hS2; clear hS2
  simp only [Act.put, List.setIfInBounds_toArray, List.set_cons_zero, List.set_cons_succ]
  refine H_put (i := 23) 36 (v := .bool true) rfl rfl (by kernel_rfl) (by kernel_rfl) (by kernel_rfl) (fun _ _ _ h => h) (Or.inl ⟨by rfl, fun w' hw' => ?_⟩) hS ?_
  · go_simp
  simp only [Act.put, List.setIfInBounds_toArray, List.set_cons_zero, List.set_cons_succ]
  refine H_put (i := 24) 37 (v := .bool true) rfl rfl (by kernel_rfl) (by kernel_rfl) (by kernel_rfl) (fun _ _ _ h => h) (Or.inl ⟨by rfl, fun w' hw' => ?_⟩) hS ?_
  · go_simp
  simp only [Act.put, List.setIfInBounds_toArray, List.set_cons_zero, List.set_cons_succ]
  refine H_put (i := 25) 38 (v := .bool true) rfl rfl (by kernel_rfl) (by kernel_rfl) (by kernel_rfl) (fun _ _ _ h => h) (Or.inl ⟨by rfl, fun w' hw' => ?_⟩) hS ?_
  · go_simp
  simp only [Act.put, List.setIfInBounds_toArray, List.set_cons_zero, List.set_cons_succ]
  refine H_put (i := 26) 39 (v := Ptr pp) rfl rfl (by kernel_rfl) (by kernel_rfl) (by kernel_rfl) (fun _ _ _ h => h) (Or.inl ⟨by rfl, fun w' hw' => ?_⟩) hS ?_
  · go_simp
  simp only [Act.put, List.setIfInBounds_toArray, List.set_cons_zero, List.set_cons_succ]
  refine H_put (i := 27) 40 (v := Ptr pp) rfl rfl (by kernel_rfl) (by kernel_rfl) (by kernel_rfl) (fun _ _ _ h => h) (Or.inl ⟨by rfl, fun w' hw' => ?_⟩) hS ?_
  · go_simp
  simp only [Act.put, List.setIfInBounds_toArray, List.set_cons_zero, List.set_cons_succ]
  refine H_put (i := 28) 41 (v := .pointer (some ⟨pp, 2, none⟩)) rfl rfl (by kernel_rfl) (by kernel_rfl) (by kernel_rfl) (fun _ _ _ h => h) (Or.inl ⟨by rfl, fun w' hw' => ?_⟩) hS ?_
  · go_simp
  simp only [Act.put, List.setIfInBounds_toArray, List.set_cons_zero, List.set_cons_succ]
  refine H_put (i := 29) 42 (v := Ptr l) rfl rfl (by kernel_rfl) (by kernel_rfl) (by kernel_rfl) (fun _ _ _ h => h) (Or.inl ⟨by rfl, fun w' hw' => ?_⟩) hS ?_
  · have c : w'.cell? ⟨pp, 2, none⟩ = some (Ptr l) := cellOf ((HA1.out.trans hw').at' HBp.out id) 2; go_simp
  simp only [Act.put, List.setIfInBounds_toArray, List.set_cons_zero, List.set_cons_succ]
  refine H_put (i := 31) 44 (v := Ptr pp) rfl rfl (by kernel_rfl) (by kernel_rfl) (by kernel_rfl) (fun _ _ _ h => h) (Or.inl ⟨by rfl, fun w' hw' => ?_⟩) hS ?_
  · go_simp
  simp only [Act.put, List.setIfInBounds_toArray, List.set_cons_zero, List.set_cons_succ]
  refine H_put (i := 32) 45 (v := Ptr pp) rfl rfl (by kernel_rfl) (by kernel_rfl) (by kernel_rfl) (fun _ _ _ h => h) (Or.inl ⟨by rfl, fun w' hw' => ?_⟩) hS ?_
  · go_simp
  simp only [Act.put, List.setIfInBounds_toArray, List.set_cons_zero, List.set_cons_succ]
  refine H_put (i := 33) 46 (v := .pointer (some ⟨pp, 3, none⟩)) rfl rfl (by kernel_rfl) (by kernel_rfl) (by kernel_rfl) (fun _ _ _ h => h) (Or.inl ⟨by rfl, fun w' hw' => ?_⟩) hS ?_
  · go_simp
  simp only [Act.put, List.setIfInBounds_toArray, List.set_cons_zero, List.set_cons_succ]
  refine H_put (i := 34) 47 (v := Ptr q) rfl rfl (by kernel_rfl) (by kernel_rfl) (by kernel_rfl) (fun _ _ _ h => h) (Or.inl ⟨by rfl, fun w' hw' => ?_⟩) hS ?_
  · have c : w'.cell? ⟨pp, 3, none⟩ = some (Ptr q) := cellOf ((HA1.out.trans hw').at' HBp.out id) 3; go_simp
  simp only [Act.put, List.setIfInBounds_toArray, List.set_cons_zero, List.set_cons_succ]
  refine H_call (i := 30) 43 18 #[Ptr l] (by kernel_rfl) rfl rfl (by rfl) (by go_simp) (HUsed.out w2 (HA1.out.trans hS)) ?_
  rintro e _ ⟨rfl, hw⟩
  rw [hw]
  clear hw
  have hS2 : (fun w' : World => Adds w1 w') _ := hS
  refine ⟨_, _, rfl, hS2, fun w' h => h, ?_⟩
  clear hS; have hS := hS2; clear hS2
  simp only [Act.put, List.setIfInBounds_toArray, List.set_cons_zero, List.set_cons_succ]
  refine H_call (i := 35) 48 35 #[Ptr q] (by kernel_rfl) rfl rfl (by rfl) (by go_simp) (HQU.out w2 (HA1.out.trans hS)) ?_
  rintro e w3 ⟨rfl, hA3⟩
  have HA3 := hid (hS.trans hA3)
  clear hA3
  have hS2 : (fun w' : World => Adds w1 w') _ := HA3.out
  refine ⟨_, _, rfl, hS2, fun w' h => h, ?_⟩
  clear hS; have hS := hS2; clear hS2
  simp only [Act.put, List.setIfInBounds_toArray, List.set_cons_zero, List.set_cons_succ]
  refine H_put (i := 36) 49 (v := .bool true) rfl rfl (by kernel_rfl) (by kernel_rfl) (by kernel_rfl) (fun _ _ _ h => h) (Or.inl ⟨by rfl, fun w' hw' => ?_⟩) hS ?_
  · go_simp
  simp only [Act.put, List.setIfInBounds_toArray, List.set_cons_zero, List.set_cons_succ]
  refine H_put (i := 37) 50 (v := .bool true) rfl rfl (by kernel_rfl) (by kernel_rfl) (by kernel_rfl) (fun _ _ _ h => h) (Or.inl ⟨by rfl, fun w' hw' => ?_⟩) hS ?_
  · go_simp
  simp only [Act.put, List.setIfInBounds_toArray, List.set_cons_zero, List.set_cons_succ]
  refine H_put (i := 38) 51 (v := .bool true) rfl rfl (by kernel_rfl) (by kernel_rfl) (by kernel_rfl) (fun _ _ _ h => h) (Or.inl ⟨by rfl, fun w' hw' => ?_⟩) hS ?_
  · go_simp
  simp only [Act.put, List.setIfInBounds_toArray, List.set_cons_zero, List.set_cons_succ]
  refine H_put (i := 39) 52 (v := Ptr pp) rfl rfl (by kernel_rfl) (by kernel_rfl) (by kernel_rfl) (fun _ _ _ h => h) (Or.inl ⟨by rfl, fun w' hw' => ?_⟩) hS ?_
  · go_simp
  simp only [Act.put, List.setIfInBounds_toArray, List.set_cons_zero, List.set_cons_succ]
  refine H_put (i := 40) 53 (v := Ptr pp) rfl rfl (by kernel_rfl) (by kernel_rfl) (by kernel_rfl) (fun _ _ _ h => h) (Or.inl ⟨by rfl, fun w' hw' => ?_⟩) hS ?_
  · go_simp
  simp only [Act.put, List.setIfInBounds_toArray, List.set_cons_zero, List.set_cons_succ]
  refine H_put (i := 41) 54 (v := .pointer (some ⟨pp, 2, none⟩)) rfl rfl (by kernel_rfl) (by kernel_rfl) (by kernel_rfl) (fun _ _ _ h => h) (Or.inl ⟨by rfl, fun w' hw' => ?_⟩) hS ?_
  · go_simp
  simp only [Act.put, List.setIfInBounds_toArray, List.set_cons_zero, List.set_cons_succ]
  refine H_put (i := 42) 55 (v := Ptr l) rfl rfl (by kernel_rfl) (by kernel_rfl) (by kernel_rfl) (fun _ _ _ h => h) (Or.inl ⟨by rfl, fun w' hw' => ?_⟩) hS ?_
  · have c : w'.cell? ⟨pp, 2, none⟩ = some (Ptr l) := cellOf ((HA1.out.trans hw').at' HBp.out id) 2; go_simp
  simp only [Act.put, List.setIfInBounds_toArray, List.set_cons_zero, List.set_cons_succ]
  refine H_put (i := 44) 57 (v := Ptr pp) rfl rfl (by kernel_rfl) (by kernel_rfl) (by kernel_rfl) (fun _ _ _ h => h) (Or.inl ⟨by rfl, fun w' hw' => ?_⟩) hS ?_
  · go_simp
  simp only [Act.put, List.setIfInBounds_toArray, List.set_cons_zero, List.set_cons_succ]
  refine H_put (i := 45) 58 (v := Ptr pp) rfl rfl (by kernel_rfl) (by kernel_rfl) (by kernel_rfl) (fun _ _ _ h => h) (Or.inl ⟨by rfl, fun w' hw' => ?_⟩) hS ?_
  · go_simp
  simp only [Act.put, List.setIfInBounds_toArray, List.set_cons_zero, List.set_cons_succ]
  refine H_put (i := 46) 59 (v := .pointer (some ⟨pp, 3, none⟩)) rfl rfl (by kernel_rfl) (by kernel_rfl) (by kernel_rfl) (fun _ _ _ h => h) (Or.inl ⟨by rfl, fun w' hw' => ?_⟩) hS ?_
  · go_simp
  simp only [Act.put, List.setIfInBounds_toArray, List.set_cons_zero, List.set_cons_succ]
  refine H_put (i := 47) 60 (v := Ptr q) rfl rfl (by kernel_rfl) (by kernel_rfl) (by kernel_rfl) (fun _ _ _ h => h) (Or.inl ⟨by rfl, fun w' hw' => ?_⟩) hS ?_
  · have c : w'.cell? ⟨pp, 3, none⟩ = some (Ptr q) := cellOf ((HA1.out.trans hw').at' HBp.out id) 3; go_simp
  simp only [Act.put, List.setIfInBounds_toArray, List.set_cons_zero, List.set_cons_succ]
  refine H_put (i := 48) 61 (v := Ptr q) rfl rfl (by kernel_rfl) (by kernel_rfl) (by kernel_rfl) (fun _ _ _ h => h) (Or.inl ⟨by rfl, fun w' hw' => ?_⟩) hS ?_
  · go_simp
  simp only [Act.put, List.setIfInBounds_toArray, List.set_cons_zero, List.set_cons_succ]
  refine H_put (i := 49) 62 (v := .pointer (some ⟨q, 2, none⟩)) rfl rfl (by kernel_rfl) (by kernel_rfl) (by kernel_rfl) (fun _ _ _ h => h) (Or.inl ⟨by rfl, fun w' hw' => ?_⟩) hS ?_
  · go_simp
  simp only [Act.put, List.setIfInBounds_toArray, List.set_cons_zero, List.set_cons_succ]
  refine H_put (i := 50) 63 (v := .int .i64 (ct : Int)) rfl rfl (by kernel_rfl) (by kernel_rfl) (by kernel_rfl) (fun _ _ _ h => h) (Or.inl ⟨by rfl, fun w' hw' => ?_⟩) hS ?_
  · have c : w'.cell? ⟨q, 2, none⟩ = some (.int .i64 (ct : Int)) := cellOf ((HA1.out.trans hw').at' HBq.out id) 2; go_simp
  simp only [Act.put, List.setIfInBounds_toArray, List.set_cons_zero, List.set_cons_succ]
  refine H_put (i := 51) 64 (v := Ptr pp) rfl rfl (by kernel_rfl) (by kernel_rfl) (by kernel_rfl) (fun _ _ _ h => h) (Or.inl ⟨by rfl, fun w' hw' => ?_⟩) hS ?_
  · go_simp
  simp only [Act.put, List.setIfInBounds_toArray, List.set_cons_zero, List.set_cons_succ]
  refine H_put (i := 52) 65 (v := Ptr pp) rfl rfl (by kernel_rfl) (by kernel_rfl) (by kernel_rfl) (fun _ _ _ h => h) (Or.inl ⟨by rfl, fun w' hw' => ?_⟩) hS ?_
  · go_simp
  simp only [Act.put, List.setIfInBounds_toArray, List.set_cons_zero, List.set_cons_succ]
  refine H_put (i := 53) 66 (v := .pointer (some ⟨pp, 3, none⟩)) rfl rfl (by kernel_rfl) (by kernel_rfl) (by kernel_rfl) (fun _ _ _ h => h) (Or.inl ⟨by rfl, fun w' hw' => ?_⟩) hS ?_
  · go_simp
  simp only [Act.put, List.setIfInBounds_toArray, List.set_cons_zero, List.set_cons_succ]
  refine H_put (i := 54) 67 (v := Ptr q) rfl rfl (by kernel_rfl) (by kernel_rfl) (by kernel_rfl) (fun _ _ _ h => h) (Or.inl ⟨by rfl, fun w' hw' => ?_⟩) hS ?_
  · have c : w'.cell? ⟨pp, 3, none⟩ = some (Ptr q) := cellOf ((HA1.out.trans hw').at' HBp.out id) 3; go_simp
  simp only [Act.put, List.setIfInBounds_toArray, List.set_cons_zero, List.set_cons_succ]
  refine H_call (i := 43) 56 19 #[Ptr l] (by kernel_rfl) rfl rfl (by rfl) (by go_simp) (HRoom.out w3 (HA1.out.trans hS)) ?_
  rintro e w4 ⟨rfl, hA4⟩
  have HA4 := hid (hS.trans hA4)
  clear hA4
  have hS2 : (fun w' : World => Adds w1 w') _ := HA4.out
  refine ⟨_, _, rfl, hS2, fun w' h => h, ?_⟩
  clear hS; have hS := hS2; clear hS2
  simp only [Act.put, List.setIfInBounds_toArray, List.set_cons_zero, List.set_cons_succ]
  refine H_call (i := 55) 68 35 #[Ptr q] (by kernel_rfl) rfl rfl (by rfl) (by go_simp) (HQU.out w4 (HA1.out.trans hS)) ?_
  rintro e w5 ⟨rfl, hA5⟩
  have HA5 := hid (hS.trans hA5)
  clear hA5
  have hS2 : (fun w' : World => Adds w1 w') _ := HA5.out
  refine ⟨_, _, rfl, hS2, fun w' h => h, ?_⟩
  clear hS; have hS := hS2; clear hS2
  simp only [Act.put, List.setIfInBounds_toArray, List.set_cons_zero, List.set_cons_succ]
  refine H_put (i := 56) 69 (v := .int .i64 ((ct : Int) - (us : Int))) rfl rfl (by kernel_rfl) (by kernel_rfl) (by kernel_rfl) (fun _ _ _ h => h) (Or.inl ⟨by rfl, fun w' hw' => ?_⟩) hS ?_
  · go_simp; rw [IntKind.wrap_i64]; omega
  simp only [Act.put, List.setIfInBounds_toArray, List.set_cons_zero, List.set_cons_succ]
  refine H_put (i := 57) 70 (v := .bool true) rfl rfl (by kernel_rfl) (by kernel_rfl) (by kernel_rfl) (fun _ _ _ h => h) (Or.inl ⟨by rfl, fun w' hw' => ?_⟩) hS ?_
  · go_simp
  simp only [Act.put, List.setIfInBounds_toArray, List.set_cons_zero, List.set_cons_succ]
  refine H_put (i := 58) 71 (v := .bool true) rfl rfl (by kernel_rfl) (by kernel_rfl) (by kernel_rfl) (fun _ _ _ h => h) (Or.inl ⟨by rfl, fun w' hw' => ?_⟩) hS ?_
  · go_simp
  simp only [Act.put, List.setIfInBounds_toArray, List.set_cons_zero, List.set_cons_succ]
  refine H_put (i := 59) 72 (v := .bool true) rfl rfl (by kernel_rfl) (by kernel_rfl) (by kernel_rfl) (fun _ _ _ h => h) (Or.inl ⟨by rfl, fun w' hw' => ?_⟩) hS ?_
  · go_simp
  simp only [Act.put, List.setIfInBounds_toArray, List.set_cons_zero, List.set_cons_succ]
  refine H_put (i := 60) 73 (v := Ptr pp) rfl rfl (by kernel_rfl) (by kernel_rfl) (by kernel_rfl) (fun _ _ _ h => h) (Or.inl ⟨by rfl, fun w' hw' => ?_⟩) hS ?_
  · go_simp
  simp only [Act.put, List.setIfInBounds_toArray, List.set_cons_zero, List.set_cons_succ]
  refine H_put (i := 61) 74 (v := Ptr pp) rfl rfl (by kernel_rfl) (by kernel_rfl) (by kernel_rfl) (fun _ _ _ h => h) (Or.inl ⟨by rfl, fun w' hw' => ?_⟩) hS ?_
  · go_simp
  simp only [Act.put, List.setIfInBounds_toArray, List.set_cons_zero, List.set_cons_succ]
  refine H_put (i := 62) 75 (v := .pointer (some ⟨pp, 0, none⟩)) rfl rfl (by kernel_rfl) (by kernel_rfl) (by kernel_rfl) (fun _ _ _ h => h) (Or.inl ⟨by rfl, fun w' hw' => ?_⟩) hS ?_
  · go_simp
  simp only [Act.put, List.setIfInBounds_toArray, List.set_cons_zero, List.set_cons_succ]
  refine H_put (i := 63) 76 (v := Ptr d) rfl rfl (by kernel_rfl) (by kernel_rfl) (by kernel_rfl) (fun _ _ _ h => h) (Or.inl ⟨by rfl, fun w' hw' => ?_⟩) hS ?_
  · have c : w'.cell? ⟨pp, 0, none⟩ = some (Ptr d) := cellOf ((HA1.out.trans hw').at' HBp.out id) 0; go_simp
  simp only [Act.put, List.setIfInBounds_toArray, List.set_cons_zero, List.set_cons_succ]
  refine H_put (i := 65) 78 (v := Ptr pp) rfl rfl (by kernel_rfl) (by kernel_rfl) (by kernel_rfl) (fun _ _ _ h => h) (Or.inl ⟨by rfl, fun w' hw' => ?_⟩) hS ?_
  · go_simp
  simp only [Act.put, List.setIfInBounds_toArray, List.set_cons_zero, List.set_cons_succ]
  refine H_put (i := 66) 79 (v := Ptr pp) rfl rfl (by kernel_rfl) (by kernel_rfl) (by kernel_rfl) (fun _ _ _ h => h) (Or.inl ⟨by rfl, fun w' hw' => ?_⟩) hS ?_
  · go_simp
  simp only [Act.put, List.setIfInBounds_toArray, List.set_cons_zero, List.set_cons_succ]
  refine H_put (i := 67) 80 (v := .pointer (some ⟨pp, 1, none⟩)) rfl rfl (by kernel_rfl) (by kernel_rfl) (by kernel_rfl) (fun _ _ _ h => h) (Or.inl ⟨by rfl, fun w' hw' => ?_⟩) hS ?_
  · go_simp
  simp only [Act.put, List.setIfInBounds_toArray, List.set_cons_zero, List.set_cons_succ]
  refine H_put (i := 68) 81 (v := Ptr r) rfl rfl (by kernel_rfl) (by kernel_rfl) (by kernel_rfl) (fun _ _ _ h => h) (Or.inl ⟨by rfl, fun w' hw' => ?_⟩) hS ?_
  · have c : w'.cell? ⟨pp, 1, none⟩ = some (Ptr r) := cellOf ((HA1.out.trans hw').at' HBp.out id) 1; go_simp
  simp only [Act.put, List.setIfInBounds_toArray, List.set_cons_zero, List.set_cons_succ]
  refine H_put (i := 69) 82 (v := Ptr r) rfl rfl (by kernel_rfl) (by kernel_rfl) (by kernel_rfl) (fun _ _ _ h => h) (Or.inl ⟨by rfl, fun w' hw' => ?_⟩) hS ?_
  · go_simp
  simp only [Act.put, List.setIfInBounds_toArray, List.set_cons_zero, List.set_cons_succ]
  refine H_put (i := 70) 83 (v := .pointer (some ⟨r, 2, none⟩)) rfl rfl (by kernel_rfl) (by kernel_rfl) (by kernel_rfl) (fun _ _ _ h => h) (Or.inl ⟨by rfl, fun w' hw' => ?_⟩) hS ?_
  · go_simp
  simp only [Act.put, List.setIfInBounds_toArray, List.set_cons_zero, List.set_cons_succ]
  refine H_put (i := 71) 84 (v := .int .i64 st) rfl rfl (by kernel_rfl) (by kernel_rfl) (by kernel_rfl) (fun _ _ _ h => h) (Or.inl ⟨by rfl, fun w' hw' => ?_⟩) hS ?_
  · have c : w'.cell? ⟨r, 2, none⟩ = some (.int .i64 st) := cellOf ((HA1.out.trans hw').at' HBr.out id) 2; go_simp
  simp only [Act.put, List.setIfInBounds_toArray, List.set_cons_zero, List.set_cons_succ]
  refine H_call (i := 64) 77 15 #[Ptr d] (by kernel_rfl) rfl rfl (by rfl) (by go_simp) (HSt.out w5 (HA1.out.trans hS)) ?_
  rintro e _ ⟨rfl, hw⟩
  rw [hw]
  clear hw
  have hS2 : (fun w' : World => Adds w1 w') _ := hS
  refine ⟨_, _, rfl, hS2, fun w' h => h, ?_⟩
  clear hS; have hS := hS2; clear hS2
  simp only [Act.put, List.setIfInBounds_toArray, List.set_cons_zero, List.set_cons_succ]
  refine H_put (i := 72) 85 (v := .bool true) rfl rfl (by kernel_rfl) (by kernel_rfl) (by kernel_rfl) (fun _ _ _ h => h) (Or.inl ⟨by rfl, fun w' hw' => ?_⟩) hS ?_
  · go_simp
  simp only [Act.put, List.setIfInBounds_toArray, List.set_cons_zero, List.set_cons_succ]
  refine H_put (i := 73) 86 (v := .bool true) rfl rfl (by kernel_rfl) (by kernel_rfl) (by kernel_rfl) (fun _ _ _ h => h) (Or.inl ⟨by rfl, fun w' hw' => ?_⟩) hS ?_
  · go_simp
  simp only [Act.put, List.setIfInBounds_toArray, List.set_cons_zero, List.set_cons_succ]
  refine H_put (i := 74) 4 (v := .bool true) rfl rfl (by kernel_rfl) (by kernel_rfl) (by kernel_rfl) (fun _ _ _ h => h) (Or.inl ⟨by rfl, fun w' hw' => ?_⟩) hS ?_
  · go_simp
  simp only [Act.put, List.setIfInBounds_toArray, List.set_cons_zero, List.set_cons_succ]
  refine wpAnyH_done (by kernel_rfl) ?_ _
  have HZ := hid (And.intro hS (HA1.out.trans hS))
  clear hS
  have HGt := hid (fun i (hi : i < n1) => pl_get (H1.out.2.1.adds HZ.out.1) (fun g hg => (H1.out.2.2.1 g hg).adds HZ.out.1) (show i < t1.length by rw [← H1.out.1]; exact hi))
  have HUt := hid (show ∀ g ∈ t1, ∀ x ∈ g.l, UFz w5 x from fun g hg x hx => (H1.out.2.2.2.2.2 g hg x hx).touch ((H1.out.2.2.1 g hg).all x hx) HZ.out.1 (fun _ _ c => c.elim))
  have HL1 := hid (HLn.out t1 H1.out.2.2.2.1)
  have hn1 : n1 ≤ 1000 := by rw [H1.out.1]; exact HL1.out.1
  obtain ⟨wz, hwz⟩ : ∃ wz, wz = w5 := ⟨_, rfl⟩
  rw [← hwz] at HZ HGt HUt ⊢
  have HF := hid (fun wr (h : Trn w.heap.size wz wr) => show PPw w0 X l d q r L L D D (.bool true) (.returned (.bool true)) wr from ⟨rfl, HP.out.turnNew HZ.out.2 h.1⟩)
  clear hwz
  go_wp2_with fail
  go_loopw [89] (fun i wr => ∃ k : Nat, k ≤ n1 ∧ i = .int .i64 (k : Int) ∧ Hid (Trn w.heap.size wz wr)) (fun i _ => n1 - (intOf i).toNat)
  case atStart => exact ⟨0, Nat.zero_le _, rfl, Trn.refl _ _⟩
  case round =>
    obtain ⟨k, hk, rfl, HI⟩ := hrel
    by_cases hlt : k < n1
    · obtain ⟨x, b1, o1, hx, hgq, rfl, hxc⟩ := HGt.out k hlt
      obtain ⟨m1, hm1⟩ : ∃ m1, m1 = x.l.length := ⟨_, rfl⟩
      have hm1b : m1 ≤ 1000000 := by rw [hm1]; exact HL1.out.2.1 x (List.mem_of_getElem? hx)
      rw [← hm1] at hxc
      have e1 : wr.cell? ⟨b1, o1 + k, none⟩ = some (.slice x.a m1 x.cap) := HI.out.2.1 _ _ hxc (fun z c => by cases c)
      have HX := hid (And.intro (List.mem_of_getElem? hx) (And.intro hgq (And.intro hm1 hxc)))
      clear hx hgq hm1 hxc
      go_wp2_with fail
      go_loopw [97] (fun j wy => ∃ i : Nat, i ≤ m1 ∧ j = .int .i64 (i : Int) ∧ Hid (Trn w.heap.size wz wy)) (fun j _ => m1 - (intOf j).toNat)
      case atStart => exact ⟨0, Nat.zero_le _, rfl, HI.out⟩
      case round =>
        obtain ⟨i, hi, rfl, HJ⟩ := hrel
        have k1 : wr.cell? ⟨b1, o1 + k, none⟩ = some (.slice x.a m1 x.cap) := HJ.out.2.1 _ _ HX.out.2.2.2 (fun z c => by cases c)
        by_cases hil : i < m1
        · obtain ⟨y, b2, o2, hy, hyq, hxa, hyc⟩ := part_getU HX.out.2.1 (k := i) (by rw [← HX.out.2.2.1]; exact hil)
          obtain ⟨m2, hm2⟩ : ∃ m2, m2 = y.bs.length := ⟨_, rfl⟩
          have hm2b : m2 ≤ 1000000 := by rw [hm2]; exact HL1.out.2.2 x HX.out.1 y hy
          rw [← hm2] at hyc
          rw [hxa] at k1
          have k2 : wr.cell? ⟨b2, o2 + i, none⟩ = some (.slice y.a m2 y.cap) := HJ.out.2.1 _ _ hyc (fun z c => by cases c)
          have HY := hid (And.intro hyq (And.intro (HUt.out x HX.out.1 y hy) (And.intro hm2 (And.intro hyc hxa))))
          clear hy hyq hm2 hyc hxa
          go_wp2_with fail
          go_loopw [108] (fun j wy => ∃ n : Nat, n ≤ m2 ∧ j = .int .i64 (n : Int) ∧ Hid (Trn w.heap.size wz wy)) (fun j _ => m2 - (intOf j).toNat)
          case atStart => exact ⟨0, Nat.zero_le _, rfl, HJ.out⟩
          case round =>
            obtain ⟨n, hn, rfl, HK⟩ := hrel
            by_cases hnl : n < m2
            · have q1 : wr.cell? ⟨b1, o1 + k, none⟩ = some (.slice (some ⟨b2, o2, none⟩) m1 x.cap) := by rw [← HY.out.2.2.2.2]; exact HK.out.2.1 _ _ HX.out.2.2.2 (fun z c => by cases c)
              have q2 : wr.cell? ⟨b2, o2 + i, none⟩ = some (.slice y.a m2 y.cap) := HK.out.2.1 _ _ HY.out.2.2.2.1 (fun z c => by cases c)
              obtain ⟨b3, o3, z3, hya, hB3, hc3, hf3⟩ := byte_getU HY.out.1 HY.out.2.1 (n := n) (by rw [← HY.out.2.2.1]; exact hnl)
              rw [hya] at q2
              obtain ⟨z4, q3⟩ := HK.out.2.2.1 _ _ hc3
              have q4 : wr.frozen? ⟨b3, o3 + n, none⟩ = false := by rw [HK.out.2.2.2]; exact hf3
              have HN := hid (And.intro hc3 hB3)
              clear hc3 hf3 hB3
              go_wp2_with fail
              go_roundw
              case rel => exact ⟨n + 1, by omega, by go_num, HK.out.set HN.out.1 HN.out.2 _⟩
              case measure => simp [intOf]; omega
            · obtain rfl : n = m2 := by omega
              go_wp2_with fail
              go_roundw
              case rel => exact ⟨i + 1, by omega, by go_num, HK.out⟩
              case measure => simp [intOf]; omega
        · obtain rfl : i = m1 := by omega
          go_wp2_with fail
          go_roundw
          case rel => exact ⟨k + 1, by omega, by go_num, HJ.out⟩
          case measure => simp [intOf]; omega
    · obtain rfl : k = n1 := by omega
      go_wp2_with fail
      go_ret
      exact HF.out wr HI.out
end Go.Proofs.YtllkplanjfnnmaaGreatDoor
