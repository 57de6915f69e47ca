/- Texts put together: FR0, FR1, FR3, FR4, FR2, FR5a, FR5b. -/
import Derived.Test.YtjbdchgadfhffaaGreatDoorQ46
import Derived.Test.YtjbdchgadfhffaaGreatDoorQ47
import Derived.Test.YtjbdchgadfhffaaGreatDoorQ48
import Derived.Test.YtjbdchgadfhffaaGreatDoorQ12
import Derived.Test.YtjbdchgadfhffaaGreatDoorQ18
import Derived.Test.YtjbdchgadfhffaaGreatDoorQ42
import Derived.BigQuiet
/- A pool and its disk on both sides: the program's and the reference's. -/
namespace Go.Proofs.YtjbdchgadfhffaaGreatDoor
open Go.RowKit
/-! ### The program's calls, with what they touch -/
/-- What a call of the program leaves. -/
def PPl2 (w0 w : World) (O OD : Nat → Prop) (p d : Nat) (s : F.Po) (D : dSt) (n k : Nat) (v : Value) (e : Ending) (w' : World) : Prop := e = .returned v ∧ Hid (∃ O' OD', Lp w0 w' O' OD' p d s D n k ∧ Touch (fun j => O j ∨ OD j) w w' ∧ ∀ j, O' j ∨ OD' j → (O j ∨ OD j) ∨ w.heap.size ≤ j)
theorem Lp.touch {w0 w : World} {O OD : Nat → Prop} {p d : Nat} {s : F.Po} {D : dSt} {n k : Nat} {w' : World} {T : Nat → Prop} (h : Lp w0 w O OD p d s D n k) (hT : Touch T w w') (hn : ∀ j, T j → ¬ (O j ∨ OD j) ∧ w0.heap.size ≤ j) : Lp w0 w' O OD p d s D n k :=
  ⟨h.pool.touch hT (fun j q c => (hn j c).1 (.inl q)), h.disk.touch hT (fun j q c => (hn j c).1 (.inr q)), h.ok, h.apart, h.low, fun j q => Nat.lt_of_lt_of_le (h.lt j q) hT.size, h.adds.then hT (fun j hj c => by have := (hn j c).2; omega), h.tab, h.good, h.pok⟩
set_option maxRecDepth 100000 in
theorem Lp.later {w0 w : World} {O OD : Nat → Prop} {p d : Nat} {s : F.Po} {D : dSt} {n k : Nat} {n' k' : Nat} (h : Lp w0 w O OD p d s D n k) (hn : n ≤ n') (hk : k ≤ k') : Lp w0 w O OD p d s D n' k' := by
  obtain ⟨hb, y, G, hp, hy⟩ := h.pool
  exact ⟨⟨hb, y, G, hp, by omega⟩, h.disk, h.ok.mono hk, h.apart, h.low, h.lt, h.adds, h.tab, h.good, h.pok⟩
set_option maxRecDepth 100000 in
theorem lp2_put {w0 w : World} {O OD : Nat → Prop} {p d : Nat} {s : F.Po} {D : dSt} {n k : Nat} (h : Lp w0 w O OD p d s D n k) (hn : n + 1 ≤ 1000000) (no : Int) (a : Option Addr) (bs : List UInt8) (m cap : Nat) (hm : bs.length = m) (hc : m ≤ cap) (hA : At w a bs) :
    Calls Tryz.prog 12 #[Ptr p, .int .i64 no, .slice a m cap] w (PPl2 w0 w O OD p d (F.putS s no bs) D (n + 1) k (.int .i64 (F.putE s no bs : Int))) := by
  refine (bput_any h.pool hn no a bs m cap hm hc hA h.tabs).mono ?_
  rintro e w' ⟨rfl, H⟩
  obtain ⟨O', h1, h2, h3⟩ := H.out
  exact ⟨rfl, O', OD, h.moved h1 h2 h3 (h.good.put no bs) (h.pok.same (F.put_same s no bs) rfl), h2.mono (fun _ _ c => .inl c), fun j c => c.elim (fun c => (h3 j c).elim (fun c => .inl (.inl c)) (fun c => .inr c.1)) (fun c => .inl (.inr c))⟩
set_option maxRecDepth 100000 in
theorem lp2_accept {w0 w : World} {O OD : Nat → Prop} {p d : Nat} {s : F.Po} {D : dSt} {n k : Nat} (h : Lp w0 w O OD p d s D n k) :
    Calls Tryz.prog 15 #[Ptr p] w (PPl2 w0 w O OD p d (F.accS s) D n k (.int .i64 ((F.which s F.isFresh).length : Int))) := by
  refine (baccept_any h.pool (fun j c => h.lt j (.inl c)) (LpE.len ⟨O, OD, h⟩)).mono ?_
  rintro e w' ⟨rfl, H⟩
  obtain ⟨O', h1, h2, h3⟩ := H.out
  exact ⟨rfl, O', OD, h.moved h1 h2 h3 h.good.acc ⟨h.pok.fr0, h.pok.ct1, h.pok.fit, h.pok.size, h.pok.mo1, h.pok.mo2⟩, h2.mono (fun _ _ c => .inl c), fun j c => c.elim (fun c => (h3 j c).elim (fun c => .inl (.inl c)) (fun c => .inr c.1)) (fun c => .inl (.inr c))⟩
set_option maxRecDepth 100000 in
theorem lp2_drop {w0 w : World} {O OD : Nat → Prop} {p d : Nat} {s : F.Po} {D : dSt} {n k : Nat} (h : Lp w0 w O OD p d s D n k) :
    Calls Tryz.prog 26 #[Ptr p] w (PPl2 w0 w O OD p d (F.dropS s) D n k (.int .i64 ((F.which s F.isFresh).length : Int))) := by
  refine (bdrop_any h.pool (fun j c => h.lt j (.inl c)) (LpE.len ⟨O, OD, h⟩)).mono ?_
  rintro e w' ⟨rfl, H⟩
  obtain ⟨O', h1, h2, h3⟩ := H.out
  exact ⟨rfl, O', OD, h.moved h1 h2 h3 h.good.drop ⟨h.pok.fr0, h.pok.ct1, h.pok.fit, h.pok.size, h.pok.mo1, h.pok.mo2⟩, h2.mono (fun _ _ c => .inl c), fun j c => c.elim (fun c => (h3 j c).elim (fun c => .inl (.inl c)) (fun c => .inr c.1)) (fun c => .inl (.inr c))⟩
set_option maxRecDepth 100000 in
theorem lp2_flush {w0 w : World} {O OD : Nat → Prop} {p d : Nat} {s : F.Po} {D : dSt} {n k : Nat} (h : Lp w0 w O OD p d s D n k) (hk9 : k + (F.which s F.isDirty).length ≤ 890) :
    Calls Tryz.prog 16 #[Ptr p] w (PPl2 w0 w O OD p d (F.flS s D) (F.flX s D).2 n (k + (F.which s F.isDirty).length + 1) (.int .i64 (F.flX s D).1)) := by
  have hz0 := h.adds.size
  refine (bflush_any h.pool h.disk h.ok h.apart h.lt h.good h.pok (fun w' hT => h.tab.adds (h.adds.then hT (fun j hj c => by have := h.low j c; omega))) hk9).mono ?_
  rintro e w' ⟨rfl, H⟩
  obtain ⟨h1, O', h2, h3, h4⟩ := H.out
  have hz := h3.size
  refine ⟨rfl, O, O', ⟨h1, h2, fl_ok h.ok, fun j c c' => ?_, fun j c => ?_, fun j c => ?_, h.adds.then h3 (fun j hj c => by have := h.low j c; omega), h.tab, h.good.fl D, h.pok.same (F.fl_same s D) (fl_size s D)⟩, h3, fun j c => c.elim (fun c => .inl (.inl c)) (fun c => (h4 j c).elim (fun c => .inl (.inr c)) (fun c => .inr c.1))⟩
  · rcases h4 j c' with c' | c'
    · exact h.apart j c c'
    · have := h.lt j (.inl c); omega
  · rcases c with c | c
    · exact h.low j (.inl c)
    · rcases h4 j c with c | c
      · exact h.low j (.inr c)
      · omega
  · rcases c with c | c
    · exact Nat.lt_of_lt_of_le (h.lt j (.inl c)) hz
    · rcases h4 j c with c | c
      · exact Nat.lt_of_lt_of_le (h.lt j (.inr c)) hz
      · exact c.2
/-- The disk alone has moved. -/
theorem PPl2.of_do {w0 w : World} {O OD : Nat → Prop} {p d : Nat} {s : F.Po} {D : dSt} {n k : Nat} {w' : World} {D2 : dSt} {k2 : Nat} (h : Lp w0 w O OD p d s D n k) (hT : Touch OD w w') (hd : IsDO w' OD d D2) (hk : DOk D2 k2) (hz : D2.size = D.size) (v : Value) : PPl2 w0 w O OD p d s D2 n k2 v (.returned v) w' :=
  ⟨rfl, O, OD, ⟨h.pool.touch hT (fun j q c => h.apart j q c), hd, hk, h.apart, h.low, fun j q => Nat.lt_of_lt_of_le (h.lt j q) hT.size, h.adds.then hT (fun j hj c => by have := h.low j (.inr c); omega), h.tab, h.good, h.pok.same ⟨rfl, rfl, rfl⟩ hz⟩, hT.mono (fun _ _ c => .inr c), fun _ c => .inl c⟩
set_option maxRecDepth 100000 in
theorem cutD_ok {D : dSt} {k : Nat} (h : DOk D k) (z : Int) (hz : z ≤ 9223372036854775807) : DOk (cutD D z) k ∧ (cutD D z).size = D.size := by
  unfold cutD
  split
  · refine ⟨⟨h.waits, h.steps0, h.steps1, ?_, ?_, h.size⟩, rfl⟩
    · show -1 ≤ if D.left = 0 then 0 else z
      split <;> omega
    · show (if D.left = 0 then 0 else z) ≤ _
      split <;> omega
  · exact ⟨h, rfl⟩
set_option maxRecDepth 100000 in
theorem spoilD_ok {D : dSt} {k : Nat} (h : DOk D k) (i a : Int) (b : UInt8) : DOk (spoilD D i a b) k ∧ (spoilD D i a b).size = D.size := by
  unfold spoilD
  split
  · exact ⟨⟨by show (D.W.map _).length ≤ _; rw [List.length_map]; exact h.waits, h.steps0, h.steps1, h.left0, h.left1, h.size⟩, rfl⟩
  · exact ⟨h, rfl⟩
set_option maxRecDepth 100000 in
theorem lp2_cut {w0 w : World} {O OD : Nat → Prop} {p d : Nat} {s : F.Po} {D : dSt} {n k : Nat} (h : Lp w0 w O OD p d s D n k) (z : Int) (hz : z ≤ 9223372036854775807) : Calls Tryz.prog 29 #[Ptr d, .int .i64 z] w (PPl2 w0 w O OD p d s (cutD D z) n k (.int .i64 (cutE z))) := by
  obtain ⟨hb, wv, hd, h1, h2, h3⟩ := h.disk
  obtain ⟨g1, g2⟩ := cutD_ok h.ok z hz
  have hs := h.ok.size
  by_cases hn : 0 ≤ z
  · rw [cutD, if_pos hn] at g1 g2
    rw [cutD, cutE, if_pos hn, if_pos hn]
    refine (cut_ok 0 d hb wv D z w hd hs hn).mono ?_
    rintro e w' ⟨rfl, hd', hT⟩
    exact PPl2.of_do h (hT.mono (fun k _ c => by subst c; exact h1)) ⟨hb, wv, hd', h1, h2, h3⟩ g1 g2 _
  · rw [cutD, if_neg hn] at g1 g2
    rw [cutD, cutE, if_neg hn, if_neg hn]
    refine (cut_bad d D.size z w (cellOf hd.box 0) hs (by omega)).mono ?_
    rintro e w' ⟨rfl, hw⟩
    rw [hw]
    exact PPl2.of_do h (Touch.refl _ _) h.disk g1 g2 _
set_option maxRecDepth 100000 in
theorem lp2_spoil {w0 w : World} {O OD : Nat → Prop} {p d : Nat} {s : F.Po} {D : dSt} {n k : Nat} (h : Lp w0 w O OD p d s D n k) (hk9 : k ≤ 900) (i a : Int) (b : UInt8) : Calls Tryz.prog 33 #[Ptr d, .int .i64 i, .int .i64 a, .int .u8 (b.toNat : Int)] w (PPl2 w0 w O OD p d s (spoilD D i a b) n k (.int .i64 (spoilE D i a))) := by
  obtain ⟨hb, wv, hd, h1, h2, h3⟩ := h.disk
  obtain ⟨g1, g2⟩ := spoilD_ok h.ok i a b
  by_cases hi : 0 ≤ i ∧ i < D.size ∧ 0 ≤ a ∧ a < 256
  · rw [spoilD, if_pos hi] at g1 g2
    rw [spoilE, spoilD, if_pos hi, if_pos hi]
    obtain ⟨m, rfl⟩ : ∃ m : Nat, i = (m : Int) := ⟨i.toNat, by omega⟩
    obtain ⟨c, rfl⟩ : ∃ c : Nat, a = (c : Int) := ⟨a.toNat, by omega⟩
    have := h.ok.waits
    refine (spoil_ok 0 d hb wv D m c b w hd (by omega) hi.2.1 (by omega)).mono ?_
    rintro e w' ⟨rfl, hd', hT⟩
    exact PPl2.of_do h (hT.mono (fun k _ c => by rcases c with rfl | c; exact h2; exact h3 k c)) ⟨hb, wv, hd', h1, h2, h3⟩ g1 g2 _
  · rw [spoilD, if_neg hi] at g1 g2
    rw [spoilE, spoilD, if_neg hi, if_neg hi]
    refine (spoil_bad d D.size i a (b.toNat : Int) w (cellOf hd.box 0) h.ok.size hi).mono ?_
    rintro e w' ⟨rfl, hw⟩
    rw [hw]
    exact PPl2.of_do h (Touch.refl _ _) h.disk g1 g2 _
/-! ### Both sides -/
/-- A pool p on the disk d, in the states s and D, the reference's q on r, in s' and D'; other blocks X, which are nobody's. -/
structure Pw (w0 w : World) (X : List (Nat × Obj)) (O OD OQ OR : Nat → Prop) (p d q r : Nat) (s s' : F.Po) (D D' : dSt) (n k : Nat) : Prop where
  wl : Lp w0 w O OD p d s D n k
  isq : IsQ w OQ q r s'
  ro : IsRO w OR r D'
  apq : ∀ j, OQ j → ¬ OR j
  ap : ∀ j, O j ∨ OD j → ¬ (OQ j ∨ OR j)
  low : ∀ j, OQ j ∨ OR j → w0.heap.size ≤ j
  lt : ∀ j, OQ j ∨ OR j → j < w.heap.size
  oth : ∀ x ∈ X, w.heap[x.1]? = some x.2 ∧ ¬ ((O x.1 ∨ OD x.1) ∨ OQ x.1 ∨ OR x.1)
def PwE (w0 w : World) (X : List (Nat × Obj)) (p d q r : Nat) (s s' : F.Po) (D D' : dSt) (n k : Nat) : Prop := ∃ O OD OQ OR, Pw w0 w X O OD OQ OR p d q r s s' D D' n k
/-- What a call leaves. -/
def PPw (w0 : World) (X : List (Nat × Obj)) (p d q r : Nat) (s s' : F.Po) (D D' : dSt) (n k : Nat) (v : Value) (e : Ending) (w' : World) : Prop := e = .returned v ∧ Hid (PwE w0 w' X p d q r s s' D D' n k)
theorem Pw.olt {w0 w : World} {X : List (Nat × Obj)} {O OD OQ OR : Nat → Prop} {p d q r : Nat} {s s' : F.Po} {D D' : dSt} {n k : Nat} (h : Pw w0 w X O OD OQ OR p d q r s s' D D' n k) {x : Nat × Obj} (hx : x ∈ X) : x.1 < w.heap.size := (Array.getElem?_eq_some_iff.1 (h.oth x hx).1).1
theorem Pw.adds {w0 w : World} {X : List (Nat × Obj)} {O OD OQ OR : Nat → Prop} {p d q r : Nat} {s s' : F.Po} {D D' : dSt} {n k : Nat} {w' : World} (h : Pw w0 w X O OD OQ OR p d q r s s' D D' n k) (hA : Adds w w') : Pw w0 w' X O OD OQ OR p d q r s s' D D' n k :=
  ⟨h.wl.add hA, h.isq.adds hA, h.ro.adds hA, h.apq, h.ap, h.low, fun j c => Nat.lt_of_lt_of_le (h.lt j c) hA.size, fun x hx => ⟨hA.at' (h.oth x hx).1 id, (h.oth x hx).2⟩⟩
set_option maxRecDepth 100000 in
theorem PwE.adds {w0 w : World} {X : List (Nat × Obj)} {p d q r : Nat} {s s' : F.Po} {D D' : dSt} {n k : Nat} {w' : World} (h : PwE w0 w X p d q r s s' D D' n k) (hA : Adds w w') : PwE w0 w' X p d q r s s' D D' n k := by
  obtain ⟨O, OD, OQ, OR, h⟩ := h
  exact ⟨O, OD, OQ, OR, h.adds hA⟩
set_option maxRecDepth 100000 in
theorem PwE.base {w0 w : World} {X : List (Nat × Obj)} {p d q r : Nat} {s s' : F.Po} {D D' : dSt} {n k : Nat} (h : PwE w0 w X p d q r s s' D D' n k) : Adds w0 w := by
  obtain ⟨O, OD, OQ, OR, h⟩ := h
  exact h.wl.adds
set_option maxRecDepth 100000 in
theorem PwE.facts {w0 w : World} {X : List (Nat × Obj)} {p d q r : Nat} {s s' : F.Po} {D D' : dSt} {n k : Nat} (h : PwE w0 w X p d q r s s' D D' n k) : F.Good s ∧ POk s D ∧ DOk D k ∧ Tab w0 := by
  obtain ⟨O, OD, OQ, OR, h⟩ := h
  exact ⟨h.wl.good, h.wl.pok, h.wl.ok, h.wl.tab⟩
set_option maxRecDepth 100000 in
theorem PwE.later {w0 w : World} {X : List (Nat × Obj)} {p d q r : Nat} {s s' : F.Po} {D D' : dSt} {n k : Nat} {n' k' : Nat} (h : PwE w0 w X p d q r s s' D D' n k) (hn : n ≤ n') (hk : k ≤ k') : PwE w0 w X p d q r s s' D D' n' k' := by
  obtain ⟨O, OD, OQ, OR, h⟩ := h
  exact ⟨O, OD, OQ, OR, h.wl.later hn hk, h.isq, h.ro, h.apq, h.ap, h.low, h.lt, h.oth⟩
set_option maxRecDepth 100000 in
theorem PwE.other {w0 w : World} {X : List (Nat × Obj)} {p d q r : Nat} {s s' : F.Po} {D D' : dSt} {n k : Nat} (h : PwE w0 w X p d q r s s' D D' n k) (x : Nat × Obj) (hx : x ∈ X) : w.heap[x.1]? = some x.2 := by
  obtain ⟨O, OD, OQ, OR, h⟩ := h
  exact (h.oth x hx).1
set_option maxRecDepth 100000 in
theorem PwE.fewer {w0 w : World} {X : List (Nat × Obj)} {p d q r : Nat} {s s' : F.Po} {D D' : dSt} {n k : Nat} {Y : List (Nat × Obj)} (h : PwE w0 w X p d q r s s' D D' n k) (hY : ∀ x ∈ Y, x ∈ X) : PwE w0 w Y p d q r s s' D D' n k := by
  obtain ⟨O, OD, OQ, OR, h⟩ := h
  exact ⟨O, OD, OQ, OR, h.wl, h.isq, h.ro, h.apq, h.ap, h.low, h.lt, fun x hx => h.oth x (hY x hx)⟩
set_option maxRecDepth 100000 in
/-- A block that was new a while ago is another one. -/
theorem PwE.more {w0 w : World} {X : List (Nat × Obj)} {p d q r : Nat} {s s' : F.Po} {D D' : dSt} {n k : Nat} {w' : World} (h : PwE w0 w X p d q r s s' D D' n k) (hA : Adds w w') (g : Nat) (o : Obj) (hg : w'.heap[g]? = some o) (hn : w.heap.size ≤ g) : PwE w0 w' ((g, o) :: X) p d q r s s' D D' n k := by
  obtain ⟨O, OD, OQ, OR, h⟩ := h
  have h' := h.adds hA
  refine ⟨O, OD, OQ, OR, h'.wl, h'.isq, h'.ro, h'.apq, h'.ap, h'.low, h'.lt, fun x hx => ?_⟩
  rcases List.mem_cons.1 hx with rfl | hx
  · refine ⟨hg, fun c => ?_⟩
    rcases c with c | c
    · have := h.wl.lt g c; omega
    · have := h.lt g c; omega
  · exact h'.oth x hx
set_option maxRecDepth 100000 in
/-- What is nobody's turns. -/
theorem PwE.turn {w0 w : World} {X : List (Nat × Obj)} {p d q r : Nat} {s s' : F.Po} {D D' : dSt} {n k : Nat} {w' : World} {Y : List (Nat × Obj)} (h : PwE w0 w X p d q r s s' D D' n k) {T : Nat → Prop} (hT : Touch T w w') (hn : ∀ j, T j → (∃ x ∈ X, x.1 = j) ∧ w0.heap.size ≤ j) (hY : ∀ y ∈ Y, (∃ x ∈ X, x.1 = y.1) ∧ w'.heap[y.1]? = some y.2) : PwE w0 w' Y p d q r s s' D D' n k := by
  obtain ⟨O, OD, OQ, OR, h⟩ := h
  have key : ∀ j, T j → ¬ ((O j ∨ OD j) ∨ OQ j ∨ OR j) := fun j c => by
    obtain ⟨⟨x, hx, e⟩, _⟩ := hn j c
    rw [← e]
    exact (h.oth x hx).2
  refine ⟨O, OD, OQ, OR, h.wl.touch hT (fun j c => ⟨fun c' => key j c (.inl c'), (hn j c).2⟩), h.isq.touch hT (fun j c c' => key j c' (.inr (.inl c))), h.ro.touch hT (fun j c c' => key j c' (.inr (.inr c))), h.apq, h.ap, h.low, fun j c => Nat.lt_of_lt_of_le (h.lt j c) hT.size, fun y hy => ?_⟩
  obtain ⟨⟨x, hx, e⟩, h2⟩ := hY y hy
  exact ⟨h2, by rw [← e]; exact (h.oth x hx).2⟩
set_option maxRecDepth 100000 in
/-- The program's side has moved. -/
theorem Pw.prog0 {w0 w : World} {X : List (Nat × Obj)} {O OD OQ OR : Nat → Prop} {p d q r : Nat} {s s' : F.Po} {D D' : dSt} {n k : Nat} {w' : World} {O' OD' : Nat → Prop} {s2 : F.Po} {D2 : dSt} {n2 k2 : Nat} (h : Pw w0 w X O OD OQ OR p d q r s s' D D' n k) (h1 : Lp w0 w' O' OD' p d s2 D2 n2 k2) (h2 : Touch (fun j => O j ∨ OD j) w w') (key : ∀ j, O' j ∨ OD' j → (O j ∨ OD j) ∨ w.heap.size ≤ j) : Pw w0 w' X O' OD' OQ OR p d q r s2 s' D2 D' n2 k2 := by
  have hz := h2.size
  refine ⟨h1, h.isq.touch h2 (fun j c c' => h.ap j c' (.inl c)), h.ro.touch h2 (fun j c c' => h.ap j c' (.inr c)), h.apq, fun j c c' => ?_, h.low, fun j c => Nat.lt_of_lt_of_le (h.lt j c) hz, fun x hx => ?_⟩
  · rcases key j c with c | c
    · exact h.ap j c c'
    · have := h.lt j c'; omega
  · have hl := h.olt hx
    refine ⟨h2.at' (h.oth x hx).1 (fun c => (h.oth x hx).2 (.inl c)), fun c => ?_⟩
    rcases c with c | c
    · rcases key _ c with c | c
      · exact (h.oth x hx).2 (.inl c)
      · omega
    · exact (h.oth x hx).2 (.inr c)
set_option maxRecDepth 100000 in
theorem Pw.prog {w0 w : World} {X : List (Nat × Obj)} {O OD OQ OR : Nat → Prop} {p d q r : Nat} {s s' : F.Po} {D D' : dSt} {n k : Nat} {w' : World} {s2 : F.Po} {D2 : dSt} {n2 k2 : Nat} {v : Value} {e : Ending} (h : Pw w0 w X O OD OQ OR p d q r s s' D D' n k) (hp : PPl2 w0 w O OD p d s2 D2 n2 k2 v e w') : PPw w0 X p d q r s2 s' D2 D' n2 k2 v e w' := by
  obtain ⟨he, hh⟩ := hp
  obtain ⟨O', OD', h1, h2, h3⟩ := hh.out
  exact ⟨he, O', OD', OQ, OR, h.prog0 h1 h2 h3⟩
set_option maxRecDepth 100000 in
/-- The reference's side has moved. -/
theorem Pw.refs {w0 w : World} {X : List (Nat × Obj)} {O OD OQ OR : Nat → Prop} {p d q r : Nat} {s s' : F.Po} {D D' : dSt} {n k : Nat} {w' : World} {OQ' OR' : Nat → Prop} {s2 : F.Po} {D2 : dSt} (h : Pw w0 w X O OD OQ OR p d q r s s' D D' n k) (hq : IsQ w' OQ' q r s2) (hr : IsRO w' OR' r D2) (ha : ∀ j, OQ' j → ¬ OR' j) (hT : Touch (fun j => OQ j ∨ OR j) w w') (hn : ∀ j, OQ' j ∨ OR' j → (OQ j ∨ OR j) ∨ (w.heap.size ≤ j ∧ j < w'.heap.size)) : Pw w0 w' X O OD OQ' OR' p d q r s s2 D D2 n k := by
  have hz := hT.size
  have hz0 := h.wl.adds.size
  refine ⟨h.wl.touch hT (fun j c => ⟨fun c' => h.ap j c' c, h.low j c⟩), hq, hr, ha, fun j c c' => ?_, fun j c => ?_, fun j c => ?_, fun x hx => ?_⟩
  · rcases hn j c' with d1 | d1
    · exact h.ap j c d1
    · have := h.wl.lt j c; omega
  · rcases hn j c with d1 | d1
    · exact h.low j d1
    · omega
  · rcases hn j c with d1 | d1
    · have := h.lt j d1; omega
    · exact d1.2
  · have hl := h.olt hx
    refine ⟨hT.at' (h.oth x hx).1 (fun c => (h.oth x hx).2 (.inr c)), fun c => ?_⟩
    rcases c with c | c
    · exact (h.oth x hx).2 (.inl c)
    · rcases hn _ c with c | c
      · exact (h.oth x hx).2 (.inr c)
      · omega
set_option maxRecDepth 100000 in
theorem Pw.refq {w0 w : World} {X : List (Nat × Obj)} {O OD OQ OR : Nat → Prop} {p d q r : Nat} {s s' : F.Po} {D D' : dSt} {n k : Nat} {w' : World} {s2 : F.Po} {v : Value} {e : Ending} (h : Pw w0 w X O OD OQ OR p d q r s s' D D' n k) (hp : PQ11 w OQ q r s2 v e w') : PPw w0 X p d q r s s2 D D' n k v e w' := by
  obtain ⟨he, hh⟩ := hp
  obtain ⟨OQ', h1, h2, h3⟩ := hh.out
  refine ⟨he, O, OD, OQ', OR, h.refs h1 (h.ro.touch h2 (fun j c c' => h.apq j c' c)) (fun j c c' => ?_) (h2.mono (fun _ _ c => .inl c)) (fun j c => ?_)⟩
  · rcases h3 j c with c | c
    · exact h.apq j c c'
    · have := h.lt j (.inr c'); omega
  · rcases c with c | c
    · exact (h3 j c).imp .inl id
    · exact .inl (.inr c)
set_option maxRecDepth 100000 in
theorem Pw.reff {w0 w : World} {X : List (Nat × Obj)} {O OD OQ OR : Nat → Prop} {p d q r : Nat} {s s' : F.Po} {D D' : dSt} {n k : Nat} {w' : World} {s2 : F.Po} {D2 : dSt} {z : Int} {e : Ending} (h : Pw w0 w X O OD OQ OR p d q r s s' D D' n k) (hp : PQF w OQ OR q r s2 D2 z e w') : PPw w0 X p d q r s s2 D D2 n k (.int .i64 z) e w' := by
  obtain ⟨he, hh⟩ := hp
  obtain ⟨h1, OR', h2, h3, h4⟩ := hh.out
  refine ⟨he, O, OD, OQ, OR', h.refs h1 h2 (fun j c c' => ?_) h3 (fun j c => ?_)⟩
  · rcases h4 j c' with c' | c'
    · exact h.apq j c c'
    · have := h.lt j (.inl c); omega
  · rcases c with c | c
    · exact .inl (.inl c)
    · exact (h4 j c).imp .inr id
set_option maxRecDepth 100000 in
theorem Pw.refd {w0 w : World} {X : List (Nat × Obj)} {O OD OQ OR : Nat → Prop} {p d q r : Nat} {s s' : F.Po} {D D' : dSt} {n k : Nat} {w' : World} {x : Int × dSt} {e : Ending} (h : Pw w0 w X O OD OQ OR p d q r s s' D D' n k) (hp : PRo w OR r x e w') : PPw w0 X p d q r s s' D x.2 n k (.int .i64 x.1) e w' := by
  obtain ⟨he, hh⟩ := hp
  obtain ⟨OR', h1, h2, h3⟩ := hh.out
  refine ⟨he, O, OD, OQ, OR', h.refs (h.isq.touch h2 h.apq) h1 (fun j c c' => ?_) (h2.mono (fun _ _ c => .inr c)) (fun j c => ?_)⟩
  · rcases h3 j c' with d1 | d1
    · exact h.apq j c d1
    · have := h.lt j (.inl c); omega
  · rcases c with c | c
    · exact .inl (.inl c)
    · exact (h3 j c).imp .inr id
/-! ### The calls, each on its side -/
set_option maxRecDepth 100000 in
theorem pw_put {w0 w : World} {X : List (Nat × Obj)} {p d q r : Nat} {s s' : F.Po} {D D' : dSt} {n k : Nat} (h : PwE w0 w X p d q r s s' D D' n k) (hn : n + 1 ≤ 1000000) (no : Int) (a : Option Addr) (bs : List UInt8) (m cap : Nat) (hm : bs.length = m) (hc : m ≤ cap) (hA : At w a bs) : Calls Tryz.prog 12 #[Ptr p, .int .i64 no, .slice a m cap] w (PPw w0 X p d q r (F.putS s no bs) s' D D' (n + 1) k (.int .i64 (F.putE s no bs : Int))) := by
  obtain ⟨O, OD, OQ, OR, h⟩ := h
  exact (lp2_put h.wl hn no a bs m cap hm hc hA).mono (fun _ _ x => h.prog x)
set_option maxRecDepth 100000 in
theorem pq_put {w0 w : World} {X : List (Nat × Obj)} {p d q r : Nat} {s s' : F.Po} {D D' : dSt} {n k : Nat} (h : PwE w0 w X p d q r s s' D D' n k) (hg : F.Good s') (hmo : s'.mo ≤ 256) (hnl : F.Nil s') (no : Int) (a : Option Addr) (bs : List UInt8) (m cap : Nat) (hm : bs.length = m) (hc : m ≤ cap) (hA : At w a bs) : Calls Tryz.prog 23 #[Ptr q, .int .i64 no, .slice a m cap] w (PPw w0 X p d q r s (F.putS s' no bs) D D' n k (.int .i64 (F.putE s' no bs : Int))) := by
  obtain ⟨O, OD, OQ, OR, h⟩ := h
  exact (qput_any h.isq (fun j c => h.lt j (.inl c)) hg hmo hnl no a bs m cap hm hc hA).mono (fun _ _ x => h.refq x)
set_option maxRecDepth 100000 in
theorem pw_accept {w0 w : World} {X : List (Nat × Obj)} {p d q r : Nat} {s s' : F.Po} {D D' : dSt} {n k : Nat} (h : PwE w0 w X p d q r s s' D D' n k) : Calls Tryz.prog 15 #[Ptr p] w (PPw w0 X p d q r (F.accS s) s' D D' n k (.int .i64 ((F.which s F.isFresh).length : Int))) := by
  obtain ⟨O, OD, OQ, OR, h⟩ := h
  exact (lp2_accept h.wl).mono (fun _ _ x => h.prog x)
set_option maxRecDepth 100000 in
theorem pq_accept {w0 w : World} {X : List (Nat × Obj)} {p d q r : Nat} {s s' : F.Po} {D D' : dSt} {n k : Nat} (h : PwE w0 w X p d q r s s' D D' n k) (hl : s'.L.length ≤ 10000) : Calls Tryz.prog 25 #[Ptr q] w (PPw w0 X p d q r s (F.accS s') D D' n k (.int .i64 ((F.which s' F.isFresh).length : Int))) := by
  obtain ⟨O, OD, OQ, OR, h⟩ := h
  exact (qaccept_any h.isq hl).mono (fun _ _ x => h.refq x)
set_option maxRecDepth 100000 in
theorem pw_drop {w0 w : World} {X : List (Nat × Obj)} {p d q r : Nat} {s s' : F.Po} {D D' : dSt} {n k : Nat} (h : PwE w0 w X p d q r s s' D D' n k) : Calls Tryz.prog 26 #[Ptr p] w (PPw w0 X p d q r (F.dropS s) s' D D' n k (.int .i64 ((F.which s F.isFresh).length : Int))) := by
  obtain ⟨O, OD, OQ, OR, h⟩ := h
  exact (lp2_drop h.wl).mono (fun _ _ x => h.prog x)
set_option maxRecDepth 100000 in
theorem pq_drop {w0 w : World} {X : List (Nat × Obj)} {p d q r : Nat} {s s' : F.Po} {D D' : dSt} {n k : Nat} (h : PwE w0 w X p d q r s s' D D' n k) (hl : s'.L.length ≤ 10000) : Calls Tryz.prog 27 #[Ptr q] w (PPw w0 X p d q r s (F.dropS s') D D' n k (.int .i64 ((F.which s' F.isFresh).length : Int))) := by
  obtain ⟨O, OD, OQ, OR, h⟩ := h
  exact (qDrop_any h.isq hl).mono (fun _ _ x => h.refq x)
set_option maxRecDepth 100000 in
theorem pw_flush {w0 w : World} {X : List (Nat × Obj)} {p d q r : Nat} {s s' : F.Po} {D D' : dSt} {n k : Nat} (h : PwE w0 w X p d q r s s' D D' n k) (hk9 : k + (F.which s F.isDirty).length ≤ 890) : Calls Tryz.prog 16 #[Ptr p] w (PPw w0 X p d q r (F.flS s D) s' (F.flX s D).2 D' n (k + (F.which s F.isDirty).length + 1) (.int .i64 (F.flX s D).1)) := by
  obtain ⟨O, OD, OQ, OR, h⟩ := h
  exact (lp2_flush h.wl hk9).mono (fun _ _ x => h.prog x)
set_option maxRecDepth 100000 in
theorem pq_flush {w0 w : World} {X : List (Nat × Obj)} {p d q r : Nat} {s s' : F.Po} {D D' : dSt} {n k : Nat} {k0 : Nat} (h : PwE w0 w X p d q r s s' D D' n k) (hg : F.Good s') (hok : POk s' D') (hdk : DOk D' k0) (hk9 : k0 + (F.which s' F.isDirty).length ≤ 890) : Calls Tryz.prog 28 #[Ptr q] w (PPw w0 X p d q r s (F.flS s' D') D (F.flX s' D').2 n k (.int .i64 (F.flX s' D').1)) := by
  obtain ⟨O, OD, OQ, OR, h⟩ := h
  exact (qflush_any h.isq h.ro hdk h.apq h.lt hg hok hk9).mono (fun _ _ x => h.reff x)
set_option maxRecDepth 100000 in
theorem pw_cut {w0 w : World} {X : List (Nat × Obj)} {p d q r : Nat} {s s' : F.Po} {D D' : dSt} {n k : Nat} (h : PwE w0 w X p d q r s s' D D' n k) (z : Int) (hz : z ≤ 9223372036854775807) : Calls Tryz.prog 29 #[Ptr d, .int .i64 z] w (PPw w0 X p d q r s s' (cutD D z) D' n k (.int .i64 (cutE z))) := by
  obtain ⟨O, OD, OQ, OR, h⟩ := h
  exact (lp2_cut h.wl z hz).mono (fun _ _ x => h.prog x)
set_option maxRecDepth 100000 in
theorem pq_cut {w0 w : World} {X : List (Nat × Obj)} {p d q r : Nat} {s s' : F.Po} {D D' : dSt} {n k : Nat} (h : PwE w0 w X p d q r s s' D D' n k) (z : Int) : Calls Tryz.prog 30 #[Ptr r, .int .i64 z] w (PPw w0 X p d q r s s' D (cutD D' z) n k (.int .i64 (cutE z))) := by
  obtain ⟨O, OD, OQ, OR, h⟩ := h
  exact (ro_cut h.ro z).mono (fun _ _ x => h.refd x)
set_option maxRecDepth 100000 in
theorem pw_spoil {w0 w : World} {X : List (Nat × Obj)} {p d q r : Nat} {s s' : F.Po} {D D' : dSt} {n k : Nat} (h : PwE w0 w X p d q r s s' D D' n k) (hk9 : k ≤ 900) (i a : Int) (b : UInt8) : Calls Tryz.prog 33 #[Ptr d, .int .i64 i, .int .i64 a, .int .u8 (b.toNat : Int)] w (PPw w0 X p d q r s s' (spoilD D i a b) D' n k (.int .i64 (spoilE D i a))) := by
  obtain ⟨O, OD, OQ, OR, h⟩ := h
  exact (lp2_spoil h.wl hk9 i a b).mono (fun _ _ x => h.prog x)
set_option maxRecDepth 100000 in
theorem pq_spoil {w0 w : World} {X : List (Nat × Obj)} {p d q r : Nat} {s s' : F.Po} {D D' : dSt} {n k : Nat} {k0 : Nat} (h : PwE w0 w X p d q r s s' D D' n k) (hdk : DOk D' k0) (hk9 : k0 ≤ 900) (i a : Int) (b : UInt8) : Calls Tryz.prog 34 #[Ptr r, .int .i64 i, .int .i64 a, .int .u8 (b.toNat : Int)] w (PPw w0 X p d q r s s' D (spoilD D' i a b) n k (.int .i64 (spoilE D' i a))) := by
  obtain ⟨O, OD, OQ, OR, h⟩ := h
  exact (ro_spoil h.ro hdk hk9 i a b).mono (fun _ _ x => h.refd x)
/-- What the program's Get tells: bytes in a block Y of their own. -/
def PGw (w0 : World) (X : List (Nat × Obj)) (p d q r : Nat) (s s' : F.Po) (D D' : dSt) (n k z : Nat) (bs : List UInt8) (e : Ending) (w' : World) : Prop := ∃ a m cap, e = .returned (.tuple #[.slice a m cap, .int .i64 (z : Int)]) ∧ Hid (m = bs.length ∧ At w' a bs ∧ (∀ j, j < m → ∃ b o, a = some ⟨b, o, none⟩ ∧ w'.frozen? ⟨b, o + j, none⟩ = false) ∧ ∃ Y : List (Nat × Obj), PwE w0 w' (Y ++ X) p d q r s s' D D' n k ∧ ∀ b o, a = some ⟨b, o, none⟩ → (∃ y ∈ Y, y.1 = b) ∧ w0.heap.size ≤ b)
set_option maxRecDepth 100000 in
theorem pw_get {w0 w : World} {X : List (Nat × Obj)} {p d q r : Nat} {s s' : F.Po} {D D' : dSt} {n k : Nat} (h : PwE w0 w X p d q r s s' D D' n k) (hn : n + 1 ≤ 1000000) (hk9 : k ≤ 900) (no : Int) : Calls Tryz.prog 14 #[Ptr p, .int .i64 no] w (PGw w0 X p d q r (F.getS s D no) s' D D' (n + 1) k (F.getE s D no) (F.getB s D no)) := by
  obtain ⟨O, OD, OQ, OR, h⟩ := h
  refine (bget_any h.wl.pool hn (fun j c => h.wl.lt j (.inl c)) h.wl.disk h.wl.ok hk9 h.wl.pok h.wl.tabs no).mono ?_
  rintro e w' ⟨v, rfl, H⟩
  obtain ⟨h0, O', h1, h2, h3, h4⟩ := H.out
  have hl := h.wl.moved h1 h2 h3 (h.wl.good.get D no) (h.wl.pok.same (F.get_same s D no) rfl)
  have hP := h.prog0 hl (h2.mono (fun _ _ c => .inl c)) (fun j c => c.elim (fun c => (h3 j c).elim (fun c => .inl (.inl c)) (fun c => .inr c.1)) (fun c => .inl (.inr c)))
  have hz0 := h.wl.adds.size
  obtain ⟨a, cap, rfl⟩ := row_form h0
  refine ⟨a, _, cap, rfl, rfl, ?_, fun j hj => ?_, ?_⟩
  · rcases h0.2 with ⟨e, hn⟩ | ⟨g, c2, cur, e, _, hgg, hnc, _⟩
    · rw [List.length_eq_zero_iff.1 hn]; exact At.nil _ _
    · cases e
      exact At.own h0
  · rcases h0.2 with ⟨e, hn⟩ | ⟨g, c2, cur, e, _, hgg, hnc, _⟩
    · omega
    · cases e
      exact ⟨g, 0, rfl, by rw [Nat.zero_add]; exact h0.frozenAt j⟩
  · rcases h0.2 with ⟨e, hn⟩ | ⟨g, c2, cur, e, hlow, hgg, hnc, _⟩
    · obtain rfl : a = none := by injection e
      exact ⟨[], ⟨O', OD, OQ, OR, hP⟩, fun b o e => (by cases e)⟩
    · cases e
      obtain ⟨cu, hcu⟩ := own_type h0 rfl
      refine ⟨[(g, .cells cu 5 (0, 0))], ⟨O', OD, OQ, OR, hP.wl, hP.isq, hP.ro, hP.apq, hP.ap, hP.low, hP.lt, fun x hx => ?_⟩, fun b o e => ?_⟩
      · rcases List.mem_append.1 hx with hx | hx
        · obtain rfl := List.mem_singleton.1 hx
          refine ⟨hcu, fun c => ?_⟩
          have hgl := (row_low h0 rfl).1
          rcases c with (c | c) | c
          · exact h4 g rfl c
          · have := h.wl.lt g (.inr c); omega
          · have := h.lt g c; omega
        · exact hP.oth x hx
      · cases e
        have hgl := (row_low h0 rfl).1
        exact ⟨⟨_, List.mem_singleton_self _, rfl⟩, by omega⟩
set_option maxRecDepth 100000 in
theorem pq_get {w0 w : World} {X : List (Nat × Obj)} {p d q r : Nat} {s s' : F.Po} {D D' : dSt} {n k : Nat} {k0 : Nat} (h : PwE w0 w X p d q r s s' D D' n k) (hdk : DOk D' k0) (hk9 : k0 ≤ 900) (hok : POk s' D') (hg : F.Good s') (no : Int) : Calls Tryz.prog 24 #[Ptr q, .int .i64 no] w (PPw w0 X p d q r s (F.getS s' D' no) D D' n k (.tuple #[Str (F.getB s' D' no), .int .i64 (F.getE s' D' no : Int)])) := by
  obtain ⟨O, OD, OQ, OR, h⟩ := h
  exact (qget_any h.isq (fun j c => h.lt j (.inl c)) h.ro hdk hk9 hok hg no).mono (fun _ _ x => h.refq x)
end Go.Proofs.YtjbdchgadfhffaaGreatDoor

/- A pair of pools is opened. -/
namespace Go.Proofs.YtjbdchgadfhffaaGreatDoor
open Go.RowKit
/-- Both disks, without pools. -/
structure Pd11 (w0 w : World) (X : List (Nat × Obj)) (OD OR : Nat → Prop) (d r : Nat) (D D' : dSt) : Prop where
  dk : IsDO w OD d D
  ro : IsRO w OR r D'
  ap : ∀ k, OD k → ¬ OR k
  low : ∀ k, OD k ∨ OR k → w0.heap.size ≤ k
  lt : ∀ k, OD k ∨ OR k → k < w.heap.size
  base : Adds w0 w
  oth : ∀ x ∈ X, w.heap[x.1]? = some x.2 ∧ ¬ (OD x.1 ∨ OR x.1)
def PdE11 (w0 w : World) (X : List (Nat × Obj)) (d r : Nat) (D D' : dSt) : Prop := ∃ OD OR, Pd11 w0 w X OD OR d r D D'
theorem Pd11.adds {w0 w w' : World} {X : List (Nat × Obj)} {OD OR : Nat → Prop} {d r : Nat} {D D' : dSt} (h : Pd11 w0 w X OD OR d r D D') (hA : Adds w w') : Pd11 w0 w' X OD OR d r D D' :=
  ⟨h.dk.adds hA, h.ro.adds hA, h.ap, h.low, fun k c => Nat.lt_of_lt_of_le (h.lt k c) hA.size, h.base.trans hA, fun x hx => ⟨hA.at' (h.oth x hx).1 id, (h.oth x hx).2⟩⟩
set_option maxRecDepth 100000 in
theorem PwE.disks {w0 w : World} {X : List (Nat × Obj)} {p d q r : Nat} {s s' : F.Po} {D D' : dSt} {n k : Nat} (h : PwE w0 w X p d q r s s' D D' n k) : PdE11 w0 w X d r D D' := by
  obtain ⟨OL, OD, OQ, OR, h⟩ := h
  refine ⟨OD, OR, h.wl.disk, h.ro, fun k c c' => h.ap k (.inr c) (.inr c'), fun k c => ?_, fun k c => ?_, h.wl.adds, fun x hx => ⟨(h.oth x hx).1, fun c => (h.oth x hx).2 ?_⟩⟩
  · rcases c with c | c
    · exact h.wl.low k (.inr c)
    · exact h.low k (.inr c)
  · rcases c with c | c
    · exact h.wl.lt k (.inr c)
    · exact h.lt k (.inr c)
  · rcases c with c | c
    · exact .inl (.inr c)
    · exact .inr (.inr c)
set_option maxRecDepth 100000 in
/-- Pools on both disks. -/
theorem Pd11.pools {w0 w w1 w2 : World} {X : List (Nat × Obj)} {OD OR : Nat → Prop} {p d q r : Nat} {s : F.Po} {D D' : dSt} {k : Nat} (h : Pd11 w0 w X OD OR d r D D') (h1 : IsPool w1 (fun k => w.heap.size ≤ k ∧ k < w1.heap.size) p d s 0 ∧ Adds w w1) (h2 : IsQ w2 (fun k => w1.heap.size ≤ k ∧ k < w2.heap.size) q r s ∧ Adds w1 w2) (hk : DOk D k) (hT : Tab w0) (hg : F.Good s) (hp : POk s D) : PwE w0 w2 X p d q r s s D D' 0 k := by
  obtain ⟨hq, hA2⟩ := h2
  have z1 := h1.2.size
  have z2 := hA2.size
  have z0 := h.base.size
  have h' := h.adds (h1.2.trans hA2)
  refine ⟨_, OD, _, OR, ⟨h1.1.adds hA2, h'.dk, hk, fun k c c' => ?_, fun k c => ?_, fun k c => ?_, h'.base, hT, hg, hp⟩, hq, h'.ro, fun k c c' => ?_, fun k c c' => ?_, fun k c => ?_, fun k c => ?_, fun x hx => ⟨(h'.oth x hx).1, fun c => ?_⟩⟩
  · have := h.lt k (.inl c'); omega
  · rcases c with c | c
    · omega
    · exact h.low k (.inl c)
  · rcases c with c | c
    · omega
    · have := h.lt k (.inl c); omega
  · have := h.lt k (.inr c'); omega
  · rcases c with c | c <;> rcases c' with c' | c'
    · omega
    · have := h.lt k (.inr c'); omega
    · have := h.lt k (.inl c); omega
    · exact h.ap k c c'
  · rcases c with c | c
    · omega
    · exact h.low k (.inr c)
  · rcases c with c | c
    · exact c.2
    · have := h.lt k (.inr c); omega
  · have hx1 := (Array.getElem?_eq_some_iff.1 (h.oth x hx).1).1
    have hx2 := (h.oth x hx).2
    rcases c with (c | c) | c | c
    · omega
    · exact hx2 (.inl c)
    · omega
    · exact hx2 (.inr c)
/-- The pair's box. -/
abbrev PB11 (d r : Nat) (vl vq : Value) : Obj := .cells #[Ptr d, Ptr r, vl, vq] 35 (0, 0)
theorem good_new (fr ct mo : Int) (h : 1 ≤ mo) : F.Good ⟨fr, ct, mo, []⟩ := ⟨fun f hf => (by cases hf), fun f hf => (by cases hf), fun f hf => (by cases hf), by show (([] : List F.Fr).length : Int) ≤ mo; simp; omega, List.nodup_nil⟩
/-- What a pair's open leaves. -/
def PO11 (w0 w : World) (X : List (Nat × Obj)) (pp d r : Nat) (D : dSt) (k : Nat) (fr ct mo : Int) (e : Ending) (w' : World) : Prop := e = .returned (.bool true) ∧ Hid ((F.openOk D fr ct mo = false ∧ Adds w w') ∨ (F.openOk D fr ct mo = true ∧ ∃ p q, PwE w0 w' ((pp, PB11 d r (Ptr p) (Ptr q)) :: X) p d q r ⟨fr, ct, mo, []⟩ ⟨fr, ct, mo, []⟩ D D 0 k))
set_option maxRecDepth 100000 in
theorem eq_pool_none (w : World) : (binOp .eql 32 (.pointer none) (.pointer none)).run Tryz.prog w = .ok (.bool true) w := by kernel_rfl
set_option maxRecDepth 100000 in
theorem eq_pool_some (l : Nat) (w : World) : (binOp .eql 32 (Ptr l) (.pointer none)).run Tryz.prog w = .ok (.bool false) w := by kernel_rfl
set_option maxRecDepth 100000 in
set_option maxHeartbeats 2000000 in
theorem p11_open {w0 w : World} {X : List (Nat × Obj)} {pp d r n0 : Nat} {vl vq : Value} {D : dSt} (h : PdE11 w0 w ((pp, PB11 d r vl vq) :: X) d r D D) (hpp : w0.heap.size ≤ pp) (hX : ∀ x ∈ X, x.1 ≠ pp) (hk : DOk D n0) (hsz : D.size ≤ 4096) (hT : Tab w0) (fr ct mo : Int) (hf : fr ≤ 9223372036854775807) :
    Calls Tryz.prog 7 #[Ptr pp, .int .i64 fr, .int .i64 ct, .int .i64 mo] w (PO11 w0 w X pp d r D n0 fr ct mo) := by
  obtain ⟨OD, OR, h⟩ := h
  have hb : w.heap[pp]? = some (PB11 d r vl vq) := (h.oth _ List.mem_cons_self).1
  have c0 : w.cell? ⟨pp, 0, none⟩ = some (Ptr d) := by have c := cellOf hb 0; simpa using c
  have c1 : w.cell? ⟨pp, 1, none⟩ = some (Ptr r) := by have c := cellOf hb 1; simpa using c
  have hs0 := hk.size
  have hep := eq_pool_some
  have hen := eq_pool_none
  cases ho : F.openOk D fr ct mo with
  | false =>
    have HA := hid (bopen_bad h.dk hk hsz fr ct mo hf ho)
    have HB := hid (ropen11_bad h.ro hs0 hsz fr ct mo ho)
    have HN := hid ho
    clear h hb ho
    go_enter Tryz.func7, Tryz.ntmps7
    go_wp2_with (first
      | (go_at_call 20; refine HA.out.mono ?_; rintro e _ ⟨rfl, hw⟩; rw [hw]; clear hw)
      | (go_at_call 21; refine HB.out.mono ?_; rintro e _ ⟨rfl, hw⟩; rw [hw]; clear hw))
    go_ret
    exact ⟨rfl, .inl ⟨HN.out, Touch.refl _ _⟩⟩
  | true =>
    have hb' : 0 ≤ fr ∧ 1 ≤ ct ∧ ct ≤ 4096 ∧ fr + ct ≤ D.size ∧ 1 ≤ mo ∧ mo ≤ 256 := by simpa [F.openOk] using ho
    have HA := hid (bopen_ok h.dk hk hsz fr ct mo ho)
    have HB := hid (fun w1 (hA : Adds w w1) => ropen11_ok (h.ro.adds hA) hs0 hsz fr ct mo ho)
    have HY := hid ho
    have HG := hid (And.intro (good_new fr ct mo hb'.2.2.2.2.1) (show POk ⟨fr, ct, mo, []⟩ D from ⟨hb'.1, hb'.2.1, hb'.2.2.2.1, hsz, hb'.2.2.2.2.1, hb'.2.2.2.2.2⟩))
    have HP := hid h
    have HBx := hid hb
    have HPP := hid (And.intro hpp hX)
    have HKT := hid (And.intro hk hT)
    clear hb' h hb hpp hX hk hT ho hf
    go_enter Tryz.func7, Tryz.ntmps7
    go_wp2_with (first
      | (go_at_call 20; refine HA.out.mono ?_; rintro e w1 ⟨l, rfl, H1⟩; have c11 : w1.cell? ⟨pp, 1, none⟩ = some (Ptr r) := below_adds H1.out.2 c1)
      | (go_at_call 21; refine (HB.out w1 H1.out.2).mono ?_; rintro e w2 ⟨q, rfl, H2⟩
         have HW := hid (HP.out.pools H1.out H2.out HKT.out.1 HKT.out.2 HG.out.1 HG.out.2)
         have HB2 := hid (HW.out.other _ List.mem_cons_self)
         have c22 : w2.cell? ⟨pp, 2, none⟩ = some vl := by have c := cellOf HB2.out 2; simpa using c
         have c32 : w2.cell? ⟨pp, 3, none⟩ = some vq := by have c := cellOf HB2.out 3; simpa using c
         have f22 : w2.frozen? ⟨pp, 2, none⟩ = false := frozen_of_row w2 pp 2 _ 35 HB2.out
         have f32 : w2.frozen? ⟨pp, 3, none⟩ = false := frozen_of_row w2 pp 3 _ 35 HB2.out))
    go_ret
    refine ⟨rfl, .inr ⟨HY.out, l, q, ?_⟩⟩
    have hT2 : Touch (fun k => k = pp) w2 ((w2.setCell ⟨pp, 2, none⟩ (Ptr l)).setCell ⟨pp, 3, none⟩ (Ptr q)) := Touch.setCell (T := fun k => k = pp) (Touch.setCell (T := fun k => k = pp) (Touch.refl _ w2) (p := ⟨pp, 2, none⟩) (fun _ => rfl) _) (p := ⟨pp, 3, none⟩) (fun _ => rfl) _
    refine HW.out.turn hT2 (fun k c => ⟨⟨_, List.mem_cons_self, c.symm⟩, by rw [c]; exact HPP.out.1⟩) (fun y hy => ?_)
    rcases List.mem_cons.1 hy with rfl | hy
    · refine ⟨⟨_, List.mem_cons_self, rfl⟩, ?_⟩
      exact heap_setCell_same _ pp 3 _ 35 _ (heap_setCell_same w2 pp 2 _ 35 _ HB2.out)
    · exact ⟨⟨y, List.mem_cons_of_mem _ hy, rfl⟩, hT2.at' (HW.out.other y (List.mem_cons_of_mem _ hy)) (HPP.out.2 y hy)⟩
end Go.Proofs.YtjbdchgadfhffaaGreatDoor

/- What an act of a pair of pools leaves; losses. -/
namespace Go.Proofs.YtjbdchgadfhffaaGreatDoor
open Go.RowKit
/-- What an act leaves, the n-th. -/
def PDo11 (w0 : World) (pp n : Nat) (e : Ending) (w' : World) : Prop := e = .returned (.bool true) ∧ Hid (∃ p d q r s D, PwE w0 w' [(pp, PB11 d r (Ptr p) (Ptr q))] p d q r s s D D n (11 * n) ∧ F.Nil s ∧ D.size ≤ 8)
/-- The act's cells. -/
abbrev act11 (k no off n : Int) (fa : Option Addr) (fn fc : Nat) (c : UInt8) (ka : Option Addr) (kn kc : Nat) (torn at_ : Int) : Array Value := #[.int .i64 k, .int .i64 no, .int .i64 off, .int .i64 n, .slice fa fn fc, .int .u8 (c.toNat : Int), .slice ka kn kc, .int .i64 torn, .int .i64 at_]
abbrev AB11 (k no off n : Int) (fa : Option Addr) (fn fc : Nat) (c : UInt8) (ka : Option Addr) (kn kc : Nat) (torn at_ : Int) : Obj := .cells (act11 k no off n fa fn fc c ka kn kc torn at_) 42 (0, 0)
theorem KeptAt.adds {w w' : World} {ka : Option Addr} {ks : List Bool} (h : KeptAt w ka ks) (hA : Adds w w') : KeptAt w' ka ks := fun j hj => by
  obtain ⟨b, o, e, hc⟩ := h j hj
  exact ⟨b, o, e, below_adds hA hc⟩
set_option maxRecDepth 100000 in
theorem type_ne {w : World} {k l : Nat} {c d : Array Value} {t u : TypeId} {f g : Nat × Nat} (h : w.heap[k]? = some (.cells c t f)) (h' : w.heap[l]? = some (.cells d u g)) (hne : t ≠ u) : k ≠ l := by
  intro e
  subst e
  rw [h] at h'
  cases h'
  exact hne rfl
/-- A disk behind a loss. -/
def PLoU (w : World) (D : dSt) (e : Ending) (w' : World) : Prop := ∃ p, e = .returned (.tuple #[Ptr p, .int .i64 0]) ∧ Hid (∃ OD, IsDO w' OD p D ∧ (∀ k, OD k → w.heap.size ≤ k ∧ k < w'.heap.size) ∧ Adds w w')
set_option maxRecDepth 100000 in
theorem do_lose {w : World} {OD : Nat → Prop} {p : Nat} {D : dSt} (h : IsDO w OD p D) (hn : D.W.length ≤ 900) (hsz : 0 < D.size) (ka : Option Addr) (kn kc : Nat) (ks : List Bool) (hkl : ks.length = kn) (torn at_ : Int) (hks : KeptAt w ka ks) (hkn : kn ≤ 9223372036854775807) (hat : 0 ≤ torn ∧ torn < D.W.length → 0 ≤ at_ ∧ at_ ≤ 256) :
    Calls Tryz.prog 31 #[Ptr p, .agg #[.slice ka kn kc, .int .i64 torn, .int .i64 at_]] w (PLoU w (D.lost ks torn at_)) := by
  subst hkl
  obtain ⟨hb, wv, hd, h1, h2, h3⟩ := h
  refine (lose_ok 0 p hb wv D ka kc ks torn at_ w hd (by omega) hsz (Nat.zero_le _) hks hkn hat).mono ?_
  rintro e w' ⟨q, hb', he, hq, hhb, hd', hA⟩
  refine ⟨q, he, fun k => k = q ∨ k = hb', ⟨hb', _, hd', .inl rfl, .inr rfl, fun k hk => (by cases hk)⟩, fun k c => ?_, hA⟩
  have q1 := (Array.getElem?_eq_some_iff.1 hd'.box).1
  obtain ⟨es, cl, q2, _⟩ := hd'.held
  have q2 := (Array.getElem?_eq_some_iff.1 q2).1
  rcases c with rfl | rfl <;> omega
set_option maxRecDepth 100000 in
theorem do_bad {w : World} {OD : Nat → Prop} {p : Nat} {D : dSt} (h : IsDO w OD p D) (hn : D.W.length ≤ 900) (hsz : 0 < D.size) (ka : Option Addr) (kn kc : Nat) (torn at_ : Int) (ht : 0 ≤ torn ∧ torn < D.W.length) (hat : at_ < 0 ∨ 256 < at_) :
    Calls Tryz.prog 31 #[Ptr p, .agg #[.slice ka kn kc, .int .i64 torn, .int .i64 at_]] w (Adding (.tuple #[.pointer none, .int .i64 2]) w) := by
  obtain ⟨hb, wv, hd, h1, h2, h3⟩ := h
  refine (lose_bad 0 p hb wv D ka kn kc torn at_ w hd hsz (by omega) ht hat).mono ?_
  rintro e w' ⟨he, hA⟩
  exact ⟨he, hA⟩
set_option maxRecDepth 100000 in
theorem ref_lost {w w' : World} {E : dSt} {e : Ending} (h : PRLose w w.heap.size E e w') : ∃ p, e = .returned (.tuple #[Ptr p, .int .i64 0]) ∧ Hid (∃ OR, IsRO w' OR p E ∧ (∀ k, OR k → w.heap.size ≤ k ∧ k < w'.heap.size) ∧ Adds w w') := by
  obtain ⟨p, hv, he, hp, hr, hA⟩ := h
  refine ⟨p, he, fun k => w.heap.size ≤ k ∧ k < w'.heap.size, ⟨hv, _, hr.mono (Nat.zero_le _), ⟨hp, (Array.getElem?_eq_some_iff.1 hr.box).1⟩, fun k hk => ?_, fun k hk => (by cases hk)⟩, fun k c => c, hA⟩
  obtain ⟨_, hc⟩ := own_type hr.held hk
  refine ⟨?_, (Array.getElem?_eq_some_iff.1 hc).1⟩
  rcases hr.held.2 with ⟨c, _⟩ | ⟨g, cap, cur, c, hb, _⟩
  · rw [c] at hk; cases hk
  · rw [c] at hk
    obtain rfl : g = k := by simpa [Value.ownBlock] using hk
    exact hb
set_option maxRecDepth 100000 in
theorem rlose_fresh (p : Nat) (hv wv : Value) (D : dSt) (ka : Option Addr) (kc : Nat) (ks : List Bool) (torn at_ : Int) (w : World) (hd : IsRef w 0 p hv wv D) (hl : D.W.length ≤ 1000) (hk : KeptAt w ka ks) (hkn : ks.length ≤ 9223372036854775807) (hat : 0 ≤ torn ∧ torn < D.W.length → 0 ≤ at_ ∧ at_ ≤ 256) :
    Calls Tryz.prog 32 #[Ptr p, .agg #[.slice ka ks.length kc, .int .i64 torn, .int .i64 at_]] w (fun e w' => ∃ p', e = .returned (.tuple #[Ptr p', .int .i64 0]) ∧ Hid (∃ OR, IsRO w' OR p' (D.lost ks torn at_) ∧ (∀ k, OR k → w.heap.size ≤ k ∧ k < w'.heap.size) ∧ Adds w w')) := by
  refine (rlose_ok 0 w.heap.size p hv wv D ka kc ks torn at_ w hd hl (Nat.le_refl _) hk hkn hat).mono ?_
  intro e w' h
  exact ref_lost h
set_option maxRecDepth 100000 in
/-- Both disks behind a loss. -/
theorem PwE.lost {w0 w w2 w3 : World} {X : List (Nat × Obj)} {p d q r d2 r2 : Nat} {s s' : F.Po} {D D' E : dSt} {n k : Nat} (h : PwE w0 w X p d q r s s' D D' n k) (h2 : ∃ OD, IsDO w2 OD d2 E ∧ (∀ k, OD k → w.heap.size ≤ k ∧ k < w2.heap.size) ∧ Adds w w2) (h3 : ∃ OR, IsRO w3 OR r2 E ∧ (∀ k, OR k → w2.heap.size ≤ k ∧ k < w3.heap.size) ∧ Adds w2 w3) : PdE11 w0 w3 X d2 r2 E E := by
  obtain ⟨OD, a1, a2, a3⟩ := h2
  obtain ⟨OR, b1, b2, b3⟩ := h3
  obtain ⟨OL, OD0, OQ, OR0, h⟩ := h
  have z0 := h.wl.adds.size
  have z1 := a3.size
  have z2 := b3.size
  refine ⟨OD, OR, a1.adds b3, b1, fun k c c' => ?_, fun k c => ?_, fun k c => ?_, h.wl.adds.trans (a3.trans b3), fun x hx => ⟨(a3.trans b3).at' (h.oth x hx).1 id, fun c => ?_⟩⟩
  · have := a2 k c; have := b2 k c'; omega
  · rcases c with c | c
    · have := a2 k c; omega
    · have := b2 k c; omega
  · rcases c with c | c
    · have := a2 k c; omega
    · exact (b2 k c).2
  · have hl := h.olt hx
    rcases c with c | c
    · have := a2 _ c; omega
    · have := b2 _ c; omega
set_option maxRecDepth 100000 in
/-- The pair's box turns. -/
theorem PdE11.box {w0 w w' : World} {d r pp : Nat} {o o' : Obj} {X : List (Nat × Obj)} {D D' : dSt} (h : PdE11 w0 w X d r D D') (hm : (pp, o) ∈ X) (hT : Touch (fun k => k = pp) w w') (hpp : w0.heap.size ≤ pp) (ho : w'.heap[pp]? = some o') : PdE11 w0 w' [(pp, o')] d r D D' := by
  obtain ⟨OD, OR, h⟩ := h
  have hn := (h.oth _ hm).2
  refine ⟨OD, OR, h.dk.touch hT (fun k c e => hn (.inl (by rw [← e]; exact c))), h.ro.touch hT (fun k c e => hn (.inr (by rw [← e]; exact c))), h.ap, h.low, fun k c => Nat.lt_of_lt_of_le (h.lt k c) hT.size, h.base.then hT (fun k hk c => by omega), fun x hx => ?_⟩
  obtain rfl := List.mem_singleton.1 hx
  exact ⟨ho, hn⟩
set_option maxRecDepth 100000 in
/-- The reference's box. -/
theorem PwE.qbox {w0 w : World} {X : List (Nat × Obj)} {p d q r : Nat} {s s' : F.Po} {D D' : dSt} {n k : Nat} (h : PwE w0 w X p d q r s s' D D' n k) : ∃ lv, w.heap[q]? = some (QBox r s' lv) := by
  obtain ⟨OL, OD, OQ, OR, h⟩ := h
  obtain ⟨lv, hq⟩ := h.isq
  exact ⟨lv, hq.box⟩
theorem dnew_ok11 (n : Int) (k : Nat) (h : 0 < n) : DOk (dSt.new n) k := ⟨Nat.zero_le _, Int.le_refl _, by show (0 : Int) ≤ k; omega, Int.le_refl _, by show (-1 : Int) ≤ _; decide, h⟩
theorem lost_ok11 {D : dSt} {k : Nat} (h : DOk D k) (ks : List Bool) (torn at_ : Int) : DOk (D.lost ks torn at_) 0 := ⟨Nat.le_refl _, Int.le_refl _, Int.le_refl _, by show (-1 : Int) ≤ -1; decide, by show (-1 : Int) ≤ _; decide, h.size⟩
set_option maxRecDepth 100000 in
theorem pd_new11 {w w1 w2 : World} {p hb r : Nat} {n : Int} (hp : w.heap.size ≤ p) (hhb : w.heap.size ≤ hb) (hd : IsDisk w1 w.heap.size p hb (.slice none 0 0) (dSt.new n)) (hA : Adds w w1) (h2 : ∃ OR, IsRO w2 OR r (dSt.new n) ∧ (∀ k, OR k → w1.heap.size ≤ k ∧ k < w2.heap.size) ∧ Adds w1 w2) (o : Obj) :
    PdE11 w (w2.alloc o) [(w2.heap.size, o)] p r (dSt.new n) (dSt.new n) := by
  obtain ⟨OR, b1, b2, b3⟩ := h2
  have q1 := (Array.getElem?_eq_some_iff.1 hd.box).1
  obtain ⟨es, cl, q2, _⟩ := hd.held
  have q2 := (Array.getElem?_eq_some_iff.1 q2).1
  have z1 := hA.size
  have z2 := b3.size
  have hA4 : Adds w2 (w2.alloc o) := (Touch.refl _ w2).alloc _
  have z3 := hA4.size
  have od : ∀ k, (k = p ∨ k = hb) → w.heap.size ≤ k ∧ k < w1.heap.size := fun k c => by rcases c with rfl | rfl <;> omega
  refine ⟨fun k => k = p ∨ k = hb, OR, (show IsDO w1 (fun k => k = p ∨ k = hb) p (dSt.new n) from ⟨hb, _, hd.mono (Nat.zero_le _), .inl rfl, .inr rfl, fun k hk => (by cases hk)⟩).adds (b3.trans hA4), b1.adds hA4, fun k c c' => ?_, fun k c => ?_, fun k c => ?_, hA.trans (b3.trans hA4), fun x hx => ?_⟩
  · have := od k c; have := b2 k c'; omega
  · rcases c with c | c
    · exact (od k c).1
    · have := b2 k c; omega
  · rcases c with c | c
    · have := od k c; omega
    · have := b2 k c; omega
  · obtain rfl := List.mem_singleton.1 hx
    refine ⟨heap_alloc_new w2 o, fun c => ?_⟩
    rcases c with c | c
    · have h1 := od w2.heap.size c; omega
    · have h1 := b2 w2.heap.size c; omega
/-- Bytes turn, all else stays. -/
def TrnB (T : Nat → Prop) (w wr : World) : Prop := Touch T w wr ∧ (∀ a z, w.cell? a = some (.int .u8 z) → ∃ z', wr.cell? a = some (.int .u8 z')) ∧ ∀ a, wr.frozen? a = w.frozen? a
theorem TrnB.refl (T : Nat → Prop) (w : World) : TrnB T w w := ⟨Touch.refl _ _, fun _ z h => ⟨z, h⟩, fun _ => rfl⟩
set_option maxRecDepth 100000 in
theorem TrnB.set {T : Nat → Prop} {w wr : World} (h : TrnB T w wr) {g j : Nat} (hB : T g) (z' : Int) : TrnB T w (wr.setCell ⟨g, j, none⟩ (.int .u8 z')) := by
  refine ⟨Touch.setCell (T := T) h.1 (p := ⟨g, j, none⟩) (fun _ => hB) _, fun a z0 ha => ?_, fun a => by rw [World.frozen?_setCell]; exact h.2.2 a⟩
  by_cases e : (⟨g, j, none⟩ : Addr) = a
  · obtain ⟨z1, h1⟩ := h.2.1 a z0 ha
    rw [← e] at h1 ⊢
    exact ⟨z', World.cell?_setCell_same _ _ _ h1⟩
  · rw [World.cell?_setCell_other _ _ _ _ e]
    exact h.2.1 a z0 ha
end Go.Proofs.YtjbdchgadfhffaaGreatDoor

/- The page that an act puts. -/
namespace Go.Proofs.YtjbdchgadfhffaaGreatDoor
open Go.RowKit
set_option maxRecDepth 100000 in
theorem gq_cell {w : World} {fa : Option Addr} {fm fc : Nat} {bs : List UInt8} (hl : bs.length = fm) (h : At w fa bs) (hz : fa = none → fc = 0) : GQ (w.alloc (.cells #[.slice fa fm fc] 37)) (fun _ => True) ⟨some ⟨w.heap.size, 0, none⟩, 1, [⟨fa, bs, fc⟩]⟩ := by
  refine ⟨fun j u hj => ⟨_, _, rfl, trivial, ?_⟩, fun e => (by cases e), fun x hx => ?_⟩
  · match j, hj with
    | 0, hj =>
      obtain rfl : Value.slice fa bs.length fc = u := Option.some.inj hj
      rw [hl, cellOf (heap_alloc_new w _)]
      rfl
  · obtain rfl := List.mem_singleton.1 hx
    refine ⟨fun j u hj => ?_, fun e => ?_⟩
    · have hj2 : (bs.map B8)[j]? = some u := hj
      rw [List.getElem?_map] at hj2
      obtain ⟨c, hc, rfl⟩ := Option.map_eq_some_iff.1 hj2
      obtain ⟨b, o, e, hcell⟩ := h j c hc
      exact ⟨b, o, e, trivial, below_adds ((Touch.refl _ w).alloc _) hcell⟩
    · exact hz e
theorem At.take {w : World} {a : Option Addr} {bs : List UInt8} (h : At w a bs) (n : Nat) : At w a (bs.take n) := fun j c hj => by
  rw [List.getElem?_take] at hj
  split at hj
  · exact h j c hj
  · cases hj
/-- The number of the page that an act puts. -/
def no64 (no off : Int) : Nat := (no % 18446744073709551616).toNat % 64 + (if off = 1 then 1 else 0)
set_option maxRecDepth 100000 in
set_option maxHeartbeats 2000000 in
theorem page11_any (k no off z : Int) (fa : Option Addr) (fn fc : Nat) (bs : List UInt8) (hl : bs.length = fn) (hc : fn ≤ fc) (hl9 : fn ≤ 9223372036854775807) (c : UInt8) (ka : Option Addr) (kn kc : Nat) (torn at_ : Int) (w : World) (hA : At w fa bs) (hz0 : fa = none → fc = 0) :
    Calls Tryz.prog 22 #[.agg (act11 k no off z fa fn fc c ka kn kc torn at_)] w (PPl w (M.pbytes ⟨no64 no off, 1, [bs.take 200]⟩)) := by
  obtain ⟨ab, hab⟩ : ∃ ab, ab = w.heap.size := ⟨_, rfl⟩
  obtain ⟨wd, hwd⟩ : ∃ wd, wd = w.alloc (AB11 k no off z fa fn fc c ka kn kc torn at_) := ⟨_, rfl⟩
  have HAx := hid (show wd.heap[ab]? = some (AB11 k no off z fa fn fc c ka kn kc torn at_) by rw [hwd, hab]; exact heap_alloc_new w _)
  have HA := hid (show Adds w wd by rw [hwd]; exact (Touch.refl _ w).alloc _)
  have e4 : (w.alloc (AB11 k no off z fa fn fc c ka kn kc torn at_)).cell? ⟨w.heap.size, 4, none⟩ = some (.slice fa fn fc) := cellOf (heap_alloc_new w _) 4
  obtain ⟨cs, hcs⟩ : ∃ cs, cs = bs.take 200 := ⟨_, rfl⟩
  obtain ⟨fm, hfm⟩ : ∃ fm, fm = cs.length := ⟨_, rfl⟩
  have HFm1 := hid (show ¬ 200 < fn → fm = fn by rw [hfm, hcs, List.length_take, hl]; omega)
  have HFm2 := hid (show 200 < fn → fm = 200 by rw [hfm, hcs, List.length_take, hl]; omega)
  have hfm2 : fm ≤ 200 := by rw [hfm, hcs, List.length_take]; omega
  obtain ⟨nn, hnn⟩ : ∃ nn, nn = no64 no off := ⟨_, rfl⟩
  have hn64 : nn < 2147483648 := by rw [hnn]; unfold no64; split <;> omega
  obtain ⟨zn, hzn⟩ : ∃ zn : Int, zn = (nn : Int) := ⟨_, rfl⟩
  have HB := hid (show Calls Tryz.prog 46 #[.agg #[.int .i64 zn, .int .u8 1, .slice (some ⟨wd.heap.size, 0, none⟩) 1 1]] (wd.alloc (.cells #[.slice fa fm fc] 37)) _ by rw [hzn]; exact rbytes_any (Q := fun _ => True) nn 1 (some ⟨wd.heap.size, 0, none⟩) [⟨fa, cs, fc⟩] 1 1 rfl _ (gq_cell hfm.symm ((hcs ▸ hA.take 200 : At w fa cs).adds HA.out) hz0) hn64 (by show M.taken [cs] ≤ 244; rw [M.taken_one]; omega))
  have HL := hid (show (M.pbytes ⟨nn, 1, [cs]⟩).length = 256 from M.len_pbytes (by show M.taken [cs] ≤ 244; rw [M.taken_one]; omega))
  rw [← hcs, ← hnn]
  obtain ⟨m, hm⟩ : ∃ m : Nat, m = (no % 18446744073709551616).toNat % 64 := ⟨_, rfl⟩
  obtain ⟨zm, hzm⟩ : ∃ zm : Int, zm = (m : Int) := ⟨_, rfl⟩
  have hmw0 : (IntKind.u64.wrap no).tmod 64 = zm := by
    rw [hzm]
    have h1 : IntKind.u64.wrap no = no % 18446744073709551616 := by rw [IntKind.wrap_u64]
    have h0 : 0 ≤ no % 18446744073709551616 := Int.emod_nonneg _ (by decide)
    rw [h1, Int.tmod_eq_emod_of_nonneg h0, hm]
    omega
  have hm64 : 0 ≤ zm ∧ zm ≤ 63 := by omega
  have hun0 : wrap64 zm = zm := by simp [wrap64]; omega
  have HM1 := hid (show off = 1 → wrap64 (zm + 1) = zn from fun ho => by rw [hzn, hnn, hzm, hm]; unfold no64; rw [if_pos ho]; simp [wrap64]; omega)
  have HM2 := hid (show ¬ off = 1 → zm = zn from fun ho => by rw [hzn, hnn, hzm, hm]; unfold no64; rw [if_neg ho]; omega)
  clear hA hl hcs hfm hnn hm hzn hzm hm64 hn64 hz0
  go_enter Tryz.func22, Tryz.ntmps22
  go_upto_if 9 with fail
  rw [← hab, ← hwd]
  clear hab hwd e4
  go_cut [3] (fun t3 wx => t3 = .slice fa fm fc ∧ wx = wd)
  case first =>
    by_cases hl : 200 < fn
    · have hl2 : (200 : Int) < (fn : Int) := by omega
      have hl3 : 200 ≤ fc := by omega
      go_wp2_with fail
      go_meet
      exact ⟨by rw [HFm2.out hl], rfl⟩
    · have hl2 : ¬ (200 : Int) < (fn : Int) := by omega
      go_wp2_with fail
      go_meet
      exact ⟨by rw [HFm1.out hl], rfl⟩
  case rest =>
  obtain ⟨rfl, hwc⟩ := hcut
  rw [hwc]
  clear hwc hc hl9 HFm1 HFm2
  have g1 : wd.cell? ⟨ab, 1, none⟩ = some (.int .i64 no) := cellOf HAx.out 1
  have g2 : wd.cell? ⟨ab, 2, none⟩ = some (.int .i64 off) := cellOf HAx.out 2
  have HE := hid (fun (w3 : World) (ra : Option Addr) (rc : Nat) (H3 : w3.ownsRow ((wd.alloc (.cells #[.slice fa fm fc] 37)).heap.size + 1) 5 1 (.slice ra 256 rc) 256 (S (M.pbytes ⟨nn, 1, [cs]⟩)) ∧ Adds (wd.alloc (.cells #[.slice fa fm fc] 37)) w3) => show PPl w (M.pbytes ⟨nn, 1, [cs]⟩) (.returned (.slice ra 256 rc)) w3 by
    have hrow := H3.1
    have hA2 : Adds w w3 := (HA.out.trans ((Touch.refl _ wd).alloc _)).trans H3.2
    obtain ⟨g, cap, e, _, hc⟩ := Own.some hrow (by decide)
    cases e
    refine ⟨_, _, rfl, row_base hrow (fun k hk => ?_), At.own hrow, hc, HL.out, hA2⟩
    have h1 := (row_low hrow hk).1
    have h2 := HA.out.size
    have h3 : (wd.alloc (.cells #[.slice fa fm fc] 37)).heap.size = wd.heap.size + 1 := by simp
    omega)
  by_cases ho : off = 1
  · have hw2 := HM1.out ho
    subst ho
    clear HAx HM1 HM2
    go_wp2_with (go_at_call 46; refine HB.out.mono ?_; rintro e w3 ⟨ra, rc, rfl, H3⟩)
    go_ret
    exact HE.out w3 ra rc H3.out
  · obtain rfl := HM2.out ho
    have ho' : (off == 1) = false := by simpa using ho
    clear HAx HM1 HM2
    go_wp2_with (go_at_call 46; refine HB.out.mono ?_; rintro e w3 ⟨ra, rc, rfl, H3⟩)
    go_ret
    exact HE.out w3 ra rc H3.out
end Go.Proofs.YtjbdchgadfhffaaGreatDoor

/- A pair of pools tells the same. -/
namespace Go.Proofs.YtjbdchgadfhffaaGreatDoor
open Go.RowKit
set_option maxRecDepth 100000 in
/-- A sector is read, whether the disk has power or not. -/
theorem dread_u {w : World} {O : Nat → Prop} {p : Nat} {D : dSt} {n : Nat} (h : IsDO w O p D) (hk : DOk D n) (hn : n ≤ 900) (i : Int) (hi : 0 ≤ i ∧ i < D.size) (s : List UInt8) (z : Int) (hs : s = rdS D i) (hz : z = if D.left = 0 then 10 else 0) : Calls Tryz.prog 39 #[Ptr p, .int .i64 i] w (fun e w' => ∃ a m cap, e = .returned (.tuple #[.slice a m cap, .int .i64 z]) ∧ Hid (At w' a s ∧ s.length = m ∧ Adds w w')) := by
  by_cases hon : D.left = 0
  · rw [hs, hz, rdS, if_pos hon, if_pos hon]
    refine (dread_off h hk hon i hi).mono ?_
    rintro e w' ⟨rfl, hw⟩
    rw [hw]
    exact ⟨none, 0, 0, rfl, At.nil _ _, rfl, Touch.refl _ _⟩
  · rw [hs, hz, rdS, if_neg hon, if_neg hon]
    refine (dread_any h hk hn hon i hi).mono ?_
    rintro e w' ⟨g, cap, rfl, H⟩
    exact ⟨_, _, _, rfl, H.out.1, H.out.2.1, H.out.2.2.2.2⟩
/-- Numbers that are told. -/
def PNa (w : World) (zs : List Int) (n : Nat) (e : Ending) (w' : World) : Prop := ∃ a cap, e = .returned (.slice a n cap) ∧ Hid (NAt w' a zs ∧ Adds w w')
set_option maxRecDepth 100000 in
theorem PNums.na {w w' : World} {zs : List Int} {n : Nat} {e : Ending} (h : PNums w zs e w') (hn : zs.length = n) : PNa w zs n e w' := by
  obtain ⟨v, rfl, H⟩ := h
  obtain ⟨a, cap, rfl, hq⟩ := row_nat H.out.1
  exact ⟨a, cap, by rw [hn], hq, H.out.2⟩
set_option maxRecDepth 100000 in
theorem PwE.nums {w0 w : World} {X : List (Nat × Obj)} {p d q r : Nat} {s s' : F.Po} {D D' : dSt} {n k : Nat} (h : PwE w0 w X p d q r s s' D D' n k) (hs : s' = s) (hz : D.size ≤ 4096) : ∀ (j : Int) (m : F.Fr → Bool), (j = 0 ∧ m = F.isHeld ∨ j = 1 ∧ m = F.isFresh ∨ j = 2 ∧ m = F.isDirty) → Calls Tryz.prog 36 #[Ptr q, .int .i64 j] w (PNums w (F.which s m)) := by
  subst hs
  obtain ⟨hg, hok, _, _⟩ := h.facts
  obtain ⟨O, OD, OQ, OR, h⟩ := h
  obtain ⟨lv, hq⟩ := h.isq
  have hl : s'.L.length ≤ 9000 := by have := hg.len; have := hok.mo2; omega
  obtain ⟨c, hc⟩ : ∃ c : Nat, s'.ct = (c : Int) := ⟨s'.ct.toNat, by have := hok.ct1; omega⟩
  have hc2 : c ≤ 10000 := by have := hok.fit; have := hok.size; have := hok.fr0; omega
  intro j m hj
  rw [← F.nums_which hg m hc.symm]
  exact qwhere_any hq (by omega) c hc hc2 j m hj
set_option maxRecDepth 100000 in
theorem which_le {s : F.Po} {D : dSt} (hg : F.Good s) (hok : POk s D) (m : F.Fr → Bool) : ((F.which s m).length : Int) ≤ D.size := by
  obtain ⟨c, hc⟩ : ∃ c : Nat, s.ct = (c : Int) := ⟨s.ct.toNat, by have := hok.ct1; omega⟩
  have h1 := F.nums_len s m c
  rw [F.nums_which hg m hc.symm] at h1
  have := hok.fit
  have := hok.fr0
  omega
set_option maxRecDepth 100000 in
set_option maxHeartbeats 8000000 in
theorem p11_alike {w0 w : World} {X : List (Nat × Obj)} {pp p d q r n k : Nat} {s : F.Po} {D : dSt} (h : PwE w0 w X p d q r s s D D n k) (hX : (pp, PB11 d r (Ptr p) (Ptr q)) ∈ X) (hk9 : k ≤ 900) (hsz : D.size ≤ 4096) :
    Calls Tryz.prog 9 #[Ptr pp] w (PPw w0 X p d q r s s D D n k (.bool true)) := by
  obtain ⟨hg, hok, hdk, _⟩ := h.facts
  have hb : w.heap[pp]? = some (PB11 d r (Ptr p) (Ptr q)) := h.other _ hX
  have cpp0 : w.cell? ⟨pp, 0, none⟩ = some (.pointer (some ⟨d, 0, none⟩)) := cellOf hb 0
  have cpp1 : w.cell? ⟨pp, 1, none⟩ = some (.pointer (some ⟨r, 0, none⟩)) := cellOf hb 1
  have cpp2 : w.cell? ⟨pp, 2, none⟩ = some (.pointer (some ⟨p, 0, none⟩)) := cellOf hb 2
  have cpp3 : w.cell? ⟨pp, 3, none⟩ = some (.pointer (some ⟨q, 0, none⟩)) := cellOf hb 3
  obtain ⟨ct, hct⟩ : ∃ ct, ct = s.ct := ⟨_, rfl⟩
  obtain ⟨st, hst⟩ : ∃ st, st = D.steps := ⟨_, rfl⟩
  have cq2 : w.cell? ⟨q, 2, none⟩ = some (.int .i64 ct) := by
    obtain ⟨O, OD, OQ, OR, hh⟩ := h
    obtain ⟨lv, hq⟩ := hh.isq
    rw [hct]
    exact cellOf hq.box 2
  have cr2 : w.cell? ⟨r, 2, none⟩ = some (.int .i64 st) := by
    obtain ⟨O, OD, OQ, OR, hh⟩ := h
    obtain ⟨hv, wv, hrf, _⟩ := hh.ro
    rw [hst]
    exact cellOf hrf.box 2
  have HP := hid h
  obtain ⟨zf, hzf⟩ : ∃ zf, zf = F.which s F.isFresh := ⟨_, rfl⟩
  obtain ⟨zd, hzd⟩ : ∃ zd, zd = F.which s F.isDirty := ⟨_, rfl⟩
  obtain ⟨zh, hzh⟩ : ∃ zh, zh = F.which s F.isHeld := ⟨_, rfl⟩
  obtain ⟨nf, hnf⟩ : ∃ nf, zf.length = nf := ⟨_, rfl⟩
  obtain ⟨nd, hnd⟩ : ∃ nd, zd.length = nd := ⟨_, rfl⟩
  obtain ⟨nh, hnh⟩ : ∃ nh, zh.length = nh := ⟨_, rfl⟩
  have lf : nf ≤ 10000 := by have := which_le hg hok F.isFresh; rw [← hzf, hnf] at this; omega
  have ld : nd ≤ 10000 := by have := which_le hg hok F.isDirty; rw [← hzd, hnd] at this; omega
  have lh : nh ≤ 10000 := by have := which_le hg hok F.isHeld; rw [← hzh, hnh] at this; omega
  have HFr := hid (fun w' (hA : Adds w w') => show Calls Tryz.prog 35 #[.pointer (some ⟨p, 0, none⟩)] w' (PNa w' zf nf) by
    obtain ⟨O, OD, OQ, OR, hh⟩ := h.adds hA
    exact (lp_fresh ⟨O, OD, hh.wl⟩).mono (fun _ _ c => by rw [hzf] at hnf ⊢; exact c.na hnf))
  have HDi := hid (fun w' (hA : Adds w w') => show Calls Tryz.prog 37 #[.pointer (some ⟨p, 0, none⟩)] w' (PNa w' zd nd) by
    obtain ⟨O, OD, OQ, OR, hh⟩ := h.adds hA
    exact (lp_dirty ⟨O, OD, hh.wl⟩).mono (fun _ _ c => by rw [hzd] at hnd ⊢; exact c.na hnd))
  have HHe := hid (fun w' (hA : Adds w w') => show Calls Tryz.prog 19 #[.pointer (some ⟨p, 0, none⟩)] w' (PNa w' zh nh) by
    obtain ⟨O, OD, OQ, OR, hh⟩ := h.adds hA
    exact (lp_held ⟨O, OD, hh.wl⟩).mono (fun _ _ c => by rw [hzh] at hnh ⊢; exact c.na hnh))
  have HW1 := hid (fun w' (hA : Adds w w') => show Calls Tryz.prog 36 #[.pointer (some ⟨q, 0, none⟩), .int .i64 1] w' (PNa w' zf nf) from ((h.adds hA).nums rfl hsz 1 F.isFresh (.inr (.inl ⟨rfl, rfl⟩))).mono (fun _ _ c => by rw [hzf] at hnf ⊢; exact c.na hnf))
  have HW2 := hid (fun w' (hA : Adds w w') => show Calls Tryz.prog 36 #[.pointer (some ⟨q, 0, none⟩), .int .i64 2] w' (PNa w' zd nd) from ((h.adds hA).nums rfl hsz 2 F.isDirty (.inr (.inr ⟨rfl, rfl⟩))).mono (fun _ _ c => by rw [hzd] at hnd ⊢; exact c.na hnd))
  have HW0 := hid (fun w' (hA : Adds w w') => show Calls Tryz.prog 36 #[.pointer (some ⟨q, 0, none⟩), .int .i64 0] w' (PNa w' zh nh) from ((h.adds hA).nums rfl hsz 0 F.isHeld (.inl ⟨rfl, rfl⟩)).mono (fun _ _ c => by rw [hzh] at hnh ⊢; exact c.na hnh))
  have HInf := hid (fun (w' : World) (a1 a2 : Option Addr) (k1 k2 : Nat) (h1 : NAt w' a1 zf) (h2 : NAt w' a2 zf) => ints_same zf nf hnf lf a1 a2 k1 k2 w' h1 h2)
  have HInd := hid (fun (w' : World) (a1 a2 : Option Addr) (k1 k2 : Nat) (h1 : NAt w' a1 zd) (h2 : NAt w' a2 zd) => ints_same zd nd hnd ld a1 a2 k1 k2 w' h1 h2)
  have HInh := hid (fun (w' : World) (a1 a2 : Option Addr) (k1 k2 : Nat) (h1 : NAt w' a1 zh) (h2 : NAt w' a2 zh) => ints_same zh nh hnh lh a1 a2 k1 k2 w' h1 h2)
  have HCt := hid (fun w' (hA : Adds w w') => show Calls Tryz.prog 38 #[.pointer (some ⟨p, 0, none⟩)] w' (Tells (.int .i64 ct) w') by
    obtain ⟨O, OD, OQ, OR, hh⟩ := h.adds hA
    rw [hct]
    exact bcount_any hh.wl.pool)
  have HSt := hid (fun w' (hA : Adds w w') => show Calls Tryz.prog 17 #[.pointer (some ⟨d, 0, none⟩)] w' (Tells (.int .i64 st) w') by
    obtain ⟨O, OD, OQ, OR, hh⟩ := h.adds hA
    rw [hst]
    exact lp_steps ⟨O, OD, hh.wl⟩)
  obtain ⟨sn, hsn⟩ : ∃ sn, sn = D.size.toNat := ⟨_, rfl⟩
  have hsn2 : sn ≤ 4096 := by omega
  have HSN := hid (show (sn : Int) = D.size by have := hdk.size; omega)
  have HRb := hid (fun (w' : World) (h' : PwE w0 w' X p d q r s s D D n k) => show ∃ g gc, w'.cell? ⟨r, 0, none⟩ = some (.slice (some ⟨g, 0, none⟩) sn gc) by
    obtain ⟨OD, OR, hd⟩ := h'.disks
    rw [hsn]
    exact hd.ro.head)
  have HDr := hid (fun (w' : World) (h' : PwE w0 w' X p d q r s s D D n k) (i : Nat) (hi : i < sn) (b : List UInt8) (z : Int) (hs : b = rdS D i) (hz : z = if D.left = 0 then 10 else 0) => show Calls Tryz.prog 39 #[.pointer (some ⟨d, 0, none⟩), .int .i64 (i : Int)] w' (fun e w'' => ∃ a m cap, e = .returned (.tuple #[.slice a m cap, .int .i64 z]) ∧ Hid (At w'' a b ∧ b.length = m ∧ Adds w' w'')) by
    obtain ⟨OD, OR, hd⟩ := h'.disks
    exact dread_u hd.dk hdk hk9 (i : Int) (by have := HSN.out; omega) b z hs hz)
  have HRr := hid (fun (w' : World) (h' : PwE w0 w' X p d q r s s D D n k) (i : Nat) (hi : i < sn) (b : List UInt8) (z : Int) (hs : b = rdS D i) (hz : z = if D.left = 0 then 10 else 0) => show Calls Tryz.prog 40 #[.pointer (some ⟨r, 0, none⟩), .int .i64 (i : Int)] w' (Tells (.tuple #[.string ⟨b.toArray⟩, .int .i64 z]) w') by
    obtain ⟨OD, OR, hd⟩ := h'.disks
    exact ro_read hd.ro hdk hk9 (i : Int) (by have := HSN.out; omega) b z hs hz)
  have HXm := hid hX
  unfold Ptr at *
  clear h hb hX hg hok hdk hct hst hzf hzd hzh hnf hnd hnh hk9 hsz hsn
  go_enter Tryz.func9, Tryz.ntmps9
  go_upto_region 1 with fail
  refine H_begin (S := fun w' : World => Adds w w') (by kernel_rfl) ?_
  have hS : (fun w' : World => Adds w w') w.drew := (Touch.refl _ w).drew
  refine H_put (i := 0) 8 (v := .pointer (some ⟨pp, 0, none⟩)) rfl rfl (by kernel_rfl) (by kernel_rfl) (by kernel_rfl) (fun _ _ _ h => h) (Or.inl ⟨by rfl, fun w' hw' => ?_⟩) hS ?_
  · go_simp
  simp only [Act.put, List.setIfInBounds_toArray, List.set_cons_zero, List.set_cons_succ]
  refine H_put (i := 1) 9 (v := .pointer (some ⟨pp, 0, none⟩)) rfl rfl (by kernel_rfl) (by kernel_rfl) (by kernel_rfl) (fun _ _ _ h => h) (Or.inl ⟨by rfl, fun w' hw' => ?_⟩) hS ?_
  · go_simp
  simp only [Act.put, List.setIfInBounds_toArray, List.set_cons_zero, List.set_cons_succ]
  refine H_put (i := 2) 10 (v := .pointer (some ⟨pp, 2, none⟩)) rfl rfl (by kernel_rfl) (by kernel_rfl) (by kernel_rfl) (fun _ _ _ h => h) (Or.inl ⟨by rfl, fun w' hw' => ?_⟩) hS ?_
  · go_simp
  simp only [Act.put, List.setIfInBounds_toArray, List.set_cons_zero, List.set_cons_succ]
  refine H_put (i := 3) 11 (v := .pointer (some ⟨p, 0, none⟩)) rfl rfl (by kernel_rfl) (by kernel_rfl) (by kernel_rfl) (fun _ _ _ h => h) (Or.inl ⟨by rfl, fun w' hw' => ?_⟩) hS ?_
  · (have c : w'.cell? ⟨pp, 2, none⟩ = some (.pointer (some ⟨p, 0, none⟩)) := below_adds hw' cpp2; clear hw'; go_simp)
  simp only [Act.put, List.setIfInBounds_toArray, List.set_cons_zero, List.set_cons_succ]
  refine H_put (i := 5) 13 (v := .pointer (some ⟨pp, 0, none⟩)) rfl rfl (by kernel_rfl) (by kernel_rfl) (by kernel_rfl) (fun _ _ _ h => h) (Or.inl ⟨by rfl, fun w' hw' => ?_⟩) hS ?_
  · go_simp
  simp only [Act.put, List.setIfInBounds_toArray, List.set_cons_zero, List.set_cons_succ]
  refine H_put (i := 6) 14 (v := .pointer (some ⟨pp, 0, none⟩)) rfl rfl (by kernel_rfl) (by kernel_rfl) (by kernel_rfl) (fun _ _ _ h => h) (Or.inl ⟨by rfl, fun w' hw' => ?_⟩) hS ?_
  · go_simp
  simp only [Act.put, List.setIfInBounds_toArray, List.set_cons_zero, List.set_cons_succ]
  refine H_put (i := 7) 15 (v := .pointer (some ⟨pp, 3, none⟩)) rfl rfl (by kernel_rfl) (by kernel_rfl) (by kernel_rfl) (fun _ _ _ h => h) (Or.inl ⟨by rfl, fun w' hw' => ?_⟩) hS ?_
  · go_simp
  simp only [Act.put, List.setIfInBounds_toArray, List.set_cons_zero, List.set_cons_succ]
  refine H_put (i := 8) 16 (v := .pointer (some ⟨q, 0, none⟩)) rfl rfl (by kernel_rfl) (by kernel_rfl) (by kernel_rfl) (fun _ _ _ h => h) (Or.inl ⟨by rfl, fun w' hw' => ?_⟩) hS ?_
  · (have c : w'.cell? ⟨pp, 3, none⟩ = some (.pointer (some ⟨q, 0, none⟩)) := below_adds hw' cpp3; clear hw'; go_simp)
  simp only [Act.put, List.setIfInBounds_toArray, List.set_cons_zero, List.set_cons_succ]
  refine H_call (i := 4) 12 35 #[.pointer (some ⟨p, 0, none⟩)] (by kernel_rfl) rfl rfl (by rfl) (by go_simp) (HFr.out w.drew hS) ?_
  rintro e w1 ⟨a1, k1, rfl, H1⟩
  have hA1 : Adds w w1 := hS.trans H1.out.2
  have hS2 : (fun w' : World => Adds w w') _ := hA1
  refine ⟨_, _, rfl, hS2, fun w' h => h, ?_⟩
  clear hS; have hS := hS2; clear hS2
  simp only [Act.put, List.setIfInBounds_toArray, List.set_cons_zero, List.set_cons_succ]
  refine H_call (i := 9) 17 36 #[.pointer (some ⟨q, 0, none⟩), .int .i64 1] (by kernel_rfl) rfl rfl (by rfl) (by go_simp) (HW1.out w1 hS) ?_
  rintro e w2 ⟨a2, k2, rfl, H2⟩
  have hA2 : Adds w w2 := hS.trans H2.out.2
  have hS2 : (fun w' : World => Adds w w') _ := hA2
  refine ⟨_, _, rfl, hS2, fun w' h => h, ?_⟩
  clear hS; have hS := hS2; clear hS2
  simp only [Act.put, List.setIfInBounds_toArray, List.set_cons_zero, List.set_cons_succ]
  refine H_call (i := 10) 18 18 #[.slice a1 nf k1, .slice a2 nf k2] (by kernel_rfl) rfl rfl (by rfl) (by go_simp) (HInf.out w2 a1 a2 k1 k2 (H1.out.1.adds H2.out.2) (H2.out.1)) ?_
  rintro e w3 ⟨rfl, hA⟩
  have hA3 : Adds w w3 := hS.trans hA
  clear hA
  have hS2 : (fun w' : World => Adds w w') _ := hA3
  refine ⟨_, _, rfl, hS2, fun w' h => h, ?_⟩
  clear hS; have hS := hS2; clear hS2
  simp only [Act.put, List.setIfInBounds_toArray, List.set_cons_zero, List.set_cons_succ]
  refine H_put (i := 11) 19 (v := .bool false) rfl rfl (by kernel_rfl) (by kernel_rfl) (by kernel_rfl) (fun _ _ _ h => h) (Or.inl ⟨by rfl, fun w' hw' => ?_⟩) hS ?_
  · go_simp
  simp only [Act.put, List.setIfInBounds_toArray, List.set_cons_zero, List.set_cons_succ]
  refine H_put (i := 12) 20 (v := .bool false) rfl rfl (by kernel_rfl) (by kernel_rfl) (by kernel_rfl) (fun _ _ _ h => h) (Or.inl ⟨by rfl, fun w' hw' => ?_⟩) hS ?_
  · go_simp
  simp only [Act.put, List.setIfInBounds_toArray, List.set_cons_zero, List.set_cons_succ]
  refine H_put (i := 13) 21 (v := .pointer (some ⟨pp, 0, none⟩)) rfl rfl (by kernel_rfl) (by kernel_rfl) (by kernel_rfl) (fun _ _ _ h => h) (Or.inl ⟨by rfl, fun w' hw' => ?_⟩) hS ?_
  · go_simp
  simp only [Act.put, List.setIfInBounds_toArray, List.set_cons_zero, List.set_cons_succ]
  refine H_put (i := 14) 22 (v := .pointer (some ⟨pp, 0, none⟩)) rfl rfl (by kernel_rfl) (by kernel_rfl) (by kernel_rfl) (fun _ _ _ h => h) (Or.inl ⟨by rfl, fun w' hw' => ?_⟩) hS ?_
  · go_simp
  simp only [Act.put, List.setIfInBounds_toArray, List.set_cons_zero, List.set_cons_succ]
  refine H_put (i := 15) 23 (v := .pointer (some ⟨pp, 2, none⟩)) rfl rfl (by kernel_rfl) (by kernel_rfl) (by kernel_rfl) (fun _ _ _ h => h) (Or.inl ⟨by rfl, fun w' hw' => ?_⟩) hS ?_
  · go_simp
  simp only [Act.put, List.setIfInBounds_toArray, List.set_cons_zero, List.set_cons_succ]
  refine H_put (i := 16) 24 (v := .pointer (some ⟨p, 0, none⟩)) rfl rfl (by kernel_rfl) (by kernel_rfl) (by kernel_rfl) (fun _ _ _ h => h) (Or.inl ⟨by rfl, fun w' hw' => ?_⟩) hS ?_
  · (have c : w'.cell? ⟨pp, 2, none⟩ = some (.pointer (some ⟨p, 0, none⟩)) := below_adds hw' cpp2; clear hw'; go_simp)
  simp only [Act.put, List.setIfInBounds_toArray, List.set_cons_zero, List.set_cons_succ]
  refine H_put (i := 18) 26 (v := .pointer (some ⟨pp, 0, none⟩)) rfl rfl (by kernel_rfl) (by kernel_rfl) (by kernel_rfl) (fun _ _ _ h => h) (Or.inl ⟨by rfl, fun w' hw' => ?_⟩) hS ?_
  · go_simp
  simp only [Act.put, List.setIfInBounds_toArray, List.set_cons_zero, List.set_cons_succ]
  refine H_put (i := 19) 27 (v := .pointer (some ⟨pp, 0, none⟩)) rfl rfl (by kernel_rfl) (by kernel_rfl) (by kernel_rfl) (fun _ _ _ h => h) (Or.inl ⟨by rfl, fun w' hw' => ?_⟩) hS ?_
  · go_simp
  simp only [Act.put, List.setIfInBounds_toArray, List.set_cons_zero, List.set_cons_succ]
  refine H_put (i := 20) 28 (v := .pointer (some ⟨pp, 3, none⟩)) rfl rfl (by kernel_rfl) (by kernel_rfl) (by kernel_rfl) (fun _ _ _ h => h) (Or.inl ⟨by rfl, fun w' hw' => ?_⟩) hS ?_
  · go_simp
  simp only [Act.put, List.setIfInBounds_toArray, List.set_cons_zero, List.set_cons_succ]
  refine H_put (i := 21) 29 (v := .pointer (some ⟨q, 0, none⟩)) rfl rfl (by kernel_rfl) (by kernel_rfl) (by kernel_rfl) (fun _ _ _ h => h) (Or.inl ⟨by rfl, fun w' hw' => ?_⟩) hS ?_
  · (have c : w'.cell? ⟨pp, 3, none⟩ = some (.pointer (some ⟨q, 0, none⟩)) := below_adds hw' cpp3; clear hw'; go_simp)
  simp only [Act.put, List.setIfInBounds_toArray, List.set_cons_zero, List.set_cons_succ]
  refine H_call (i := 17) 25 37 #[.pointer (some ⟨p, 0, none⟩)] (by kernel_rfl) rfl rfl (by rfl) (by go_simp) (HDi.out w3 hS) ?_
  rintro e w4 ⟨a4, k4, rfl, H4⟩
  have hA4 : Adds w w4 := hS.trans H4.out.2
  have hS2 : (fun w' : World => Adds w w') _ := hA4
  refine ⟨_, _, rfl, hS2, fun w' h => h, ?_⟩
  clear hS; have hS := hS2; clear hS2
  simp only [Act.put, List.setIfInBounds_toArray, List.set_cons_zero, List.set_cons_succ]
  refine H_call (i := 22) 30 36 #[.pointer (some ⟨q, 0, none⟩), .int .i64 2] (by kernel_rfl) rfl rfl (by rfl) (by go_simp) (HW2.out w4 hS) ?_
  rintro e w5 ⟨a5, k5, rfl, H5⟩
  have hA5 : Adds w w5 := hS.trans H5.out.2
  have hS2 : (fun w' : World => Adds w w') _ := hA5
  refine ⟨_, _, rfl, hS2, fun w' h => h, ?_⟩
  clear hS; have hS := hS2; clear hS2
  simp only [Act.put, List.setIfInBounds_toArray, List.set_cons_zero, List.set_cons_succ]
  refine H_call (i := 23) 31 18 #[.slice a4 nd k4, .slice a5 nd k5] (by kernel_rfl) rfl rfl (by rfl) (by go_simp) (HInd.out w5 a4 a5 k4 k5 (H4.out.1.adds H5.out.2) (H5.out.1)) ?_
  rintro e w6 ⟨rfl, hA⟩
  have hA6 : Adds w w6 := hS.trans hA
  clear hA
  have hS2 : (fun w' : World => Adds w w') _ := hA6
  refine ⟨_, _, rfl, hS2, fun w' h => h, ?_⟩
  clear hS; have hS := hS2; clear hS2
  simp only [Act.put, List.setIfInBounds_toArray, List.set_cons_zero, List.set_cons_succ]
  refine H_put (i := 24) 32 (v := .bool false) rfl rfl (by kernel_rfl) (by kernel_rfl) (by kernel_rfl) (fun _ _ _ h => h) (Or.inl ⟨by rfl, fun w' hw' => ?_⟩) hS ?_
  · go_simp
  simp only [Act.put, List.setIfInBounds_toArray, List.set_cons_zero, List.set_cons_succ]
  refine H_put (i := 25) 33 (v := .bool false) rfl rfl (by kernel_rfl) (by kernel_rfl) (by kernel_rfl) (fun _ _ _ h => h) (Or.inl ⟨by rfl, fun w' hw' => ?_⟩) hS ?_
  · go_simp
  simp only [Act.put, List.setIfInBounds_toArray, List.set_cons_zero, List.set_cons_succ]
  refine H_put (i := 26) 34 (v := .bool false) rfl rfl (by kernel_rfl) (by kernel_rfl) (by kernel_rfl) (fun _ _ _ h => h) (Or.inl ⟨by rfl, fun w' hw' => ?_⟩) hS ?_
  · go_simp
  simp only [Act.put, List.setIfInBounds_toArray, List.set_cons_zero, List.set_cons_succ]
  refine H_put (i := 27) 35 (v := .pointer (some ⟨pp, 0, none⟩)) rfl rfl (by kernel_rfl) (by kernel_rfl) (by kernel_rfl) (fun _ _ _ h => h) (Or.inl ⟨by rfl, fun w' hw' => ?_⟩) hS ?_
  · go_simp
  simp only [Act.put, List.setIfInBounds_toArray, List.set_cons_zero, List.set_cons_succ]
  refine H_put (i := 28) 36 (v := .pointer (some ⟨pp, 0, none⟩)) rfl rfl (by kernel_rfl) (by kernel_rfl) (by kernel_rfl) (fun _ _ _ h => h) (Or.inl ⟨by rfl, fun w' hw' => ?_⟩) hS ?_
  · go_simp
  simp only [Act.put, List.setIfInBounds_toArray, List.set_cons_zero, List.set_cons_succ]
  refine H_put (i := 29) 37 (v := .pointer (some ⟨pp, 2, none⟩)) rfl rfl (by kernel_rfl) (by kernel_rfl) (by kernel_rfl) (fun _ _ _ h => h) (Or.inl ⟨by rfl, fun w' hw' => ?_⟩) hS ?_
  · go_simp
  simp only [Act.put, List.setIfInBounds_toArray, List.set_cons_zero, List.set_cons_succ]
  refine H_put (i := 30) 38 (v := .pointer (some ⟨p, 0, none⟩)) rfl rfl (by kernel_rfl) (by kernel_rfl) (by kernel_rfl) (fun _ _ _ h => h) (Or.inl ⟨by rfl, fun w' hw' => ?_⟩) hS ?_
  · (have c : w'.cell? ⟨pp, 2, none⟩ = some (.pointer (some ⟨p, 0, none⟩)) := below_adds hw' cpp2; clear hw'; go_simp)
  simp only [Act.put, List.setIfInBounds_toArray, List.set_cons_zero, List.set_cons_succ]
  refine H_put (i := 32) 40 (v := .pointer (some ⟨pp, 0, none⟩)) rfl rfl (by kernel_rfl) (by kernel_rfl) (by kernel_rfl) (fun _ _ _ h => h) (Or.inl ⟨by rfl, fun w' hw' => ?_⟩) hS ?_
  · go_simp
  simp only [Act.put, List.setIfInBounds_toArray, List.set_cons_zero, List.set_cons_succ]
  refine H_put (i := 33) 41 (v := .pointer (some ⟨pp, 0, none⟩)) rfl rfl (by kernel_rfl) (by kernel_rfl) (by kernel_rfl) (fun _ _ _ h => h) (Or.inl ⟨by rfl, fun w' hw' => ?_⟩) hS ?_
  · go_simp
  simp only [Act.put, List.setIfInBounds_toArray, List.set_cons_zero, List.set_cons_succ]
  refine H_put (i := 34) 42 (v := .pointer (some ⟨pp, 3, none⟩)) rfl rfl (by kernel_rfl) (by kernel_rfl) (by kernel_rfl) (fun _ _ _ h => h) (Or.inl ⟨by rfl, fun w' hw' => ?_⟩) hS ?_
  · go_simp
  simp only [Act.put, List.setIfInBounds_toArray, List.set_cons_zero, List.set_cons_succ]
  refine H_put (i := 35) 43 (v := .pointer (some ⟨q, 0, none⟩)) rfl rfl (by kernel_rfl) (by kernel_rfl) (by kernel_rfl) (fun _ _ _ h => h) (Or.inl ⟨by rfl, fun w' hw' => ?_⟩) hS ?_
  · (have c : w'.cell? ⟨pp, 3, none⟩ = some (.pointer (some ⟨q, 0, none⟩)) := below_adds hw' cpp3; clear hw'; go_simp)
  simp only [Act.put, List.setIfInBounds_toArray, List.set_cons_zero, List.set_cons_succ]
  refine H_call (i := 31) 39 19 #[.pointer (some ⟨p, 0, none⟩)] (by kernel_rfl) rfl rfl (by rfl) (by go_simp) (HHe.out w6 hS) ?_
  rintro e w7 ⟨a7, k7, rfl, H7⟩
  have hA7 : Adds w w7 := hS.trans H7.out.2
  have hS2 : (fun w' : World => Adds w w') _ := hA7
  refine ⟨_, _, rfl, hS2, fun w' h => h, ?_⟩
  clear hS; have hS := hS2; clear hS2
  simp only [Act.put, List.setIfInBounds_toArray, List.set_cons_zero, List.set_cons_succ]
  refine H_call (i := 36) 44 36 #[.pointer (some ⟨q, 0, none⟩), .int .i64 0] (by kernel_rfl) rfl rfl (by rfl) (by go_simp) (HW0.out w7 hS) ?_
  rintro e w8 ⟨a8, k8, rfl, H8⟩
  have hA8 : Adds w w8 := hS.trans H8.out.2
  have hS2 : (fun w' : World => Adds w w') _ := hA8
  refine ⟨_, _, rfl, hS2, fun w' h => h, ?_⟩
  clear hS; have hS := hS2; clear hS2
  simp only [Act.put, List.setIfInBounds_toArray, List.set_cons_zero, List.set_cons_succ]
  refine H_call (i := 37) 45 18 #[.slice a7 nh k7, .slice a8 nh k8] (by kernel_rfl) rfl rfl (by rfl) (by go_simp) (HInh.out w8 a7 a8 k7 k8 (H7.out.1.adds H8.out.2) (H8.out.1)) ?_
  rintro e w9 ⟨rfl, hA⟩
  have hA9 : Adds w w9 := hS.trans hA
  clear hA
  have hS2 : (fun w' : World => Adds w w') _ := hA9
  refine ⟨_, _, rfl, hS2, fun w' h => h, ?_⟩
  clear hS; have hS := hS2; clear hS2
  simp only [Act.put, List.setIfInBounds_toArray, List.set_cons_zero, List.set_cons_succ]
  refine H_put (i := 38) 46 (v := .bool false) rfl rfl (by kernel_rfl) (by kernel_rfl) (by kernel_rfl) (fun _ _ _ h => h) (Or.inl ⟨by rfl, fun w' hw' => ?_⟩) hS ?_
  · go_simp
  simp only [Act.put, List.setIfInBounds_toArray, List.set_cons_zero, List.set_cons_succ]
  refine H_put (i := 39) 47 (v := .bool false) rfl rfl (by kernel_rfl) (by kernel_rfl) (by kernel_rfl) (fun _ _ _ h => h) (Or.inl ⟨by rfl, fun w' hw' => ?_⟩) hS ?_
  · go_simp
  simp only [Act.put, List.setIfInBounds_toArray, List.set_cons_zero, List.set_cons_succ]
  refine H_put (i := 40) 48 (v := .bool false) rfl rfl (by kernel_rfl) (by kernel_rfl) (by kernel_rfl) (fun _ _ _ h => h) (Or.inl ⟨by rfl, fun w' hw' => ?_⟩) hS ?_
  · go_simp
  simp only [Act.put, List.setIfInBounds_toArray, List.set_cons_zero, List.set_cons_succ]
  refine H_put (i := 41) 49 (v := .pointer (some ⟨pp, 0, none⟩)) rfl rfl (by kernel_rfl) (by kernel_rfl) (by kernel_rfl) (fun _ _ _ h => h) (Or.inl ⟨by rfl, fun w' hw' => ?_⟩) hS ?_
  · go_simp
  simp only [Act.put, List.setIfInBounds_toArray, List.set_cons_zero, List.set_cons_succ]
  refine H_put (i := 42) 50 (v := .pointer (some ⟨pp, 0, none⟩)) rfl rfl (by kernel_rfl) (by kernel_rfl) (by kernel_rfl) (fun _ _ _ h => h) (Or.inl ⟨by rfl, fun w' hw' => ?_⟩) hS ?_
  · go_simp
  simp only [Act.put, List.setIfInBounds_toArray, List.set_cons_zero, List.set_cons_succ]
  refine H_put (i := 43) 51 (v := .pointer (some ⟨pp, 2, none⟩)) rfl rfl (by kernel_rfl) (by kernel_rfl) (by kernel_rfl) (fun _ _ _ h => h) (Or.inl ⟨by rfl, fun w' hw' => ?_⟩) hS ?_
  · go_simp
  simp only [Act.put, List.setIfInBounds_toArray, List.set_cons_zero, List.set_cons_succ]
  refine H_put (i := 44) 52 (v := .pointer (some ⟨p, 0, none⟩)) rfl rfl (by kernel_rfl) (by kernel_rfl) (by kernel_rfl) (fun _ _ _ h => h) (Or.inl ⟨by rfl, fun w' hw' => ?_⟩) hS ?_
  · (have c : w'.cell? ⟨pp, 2, none⟩ = some (.pointer (some ⟨p, 0, none⟩)) := below_adds hw' cpp2; clear hw'; go_simp)
  simp only [Act.put, List.setIfInBounds_toArray, List.set_cons_zero, List.set_cons_succ]
  refine H_put (i := 46) 54 (v := .pointer (some ⟨pp, 0, none⟩)) rfl rfl (by kernel_rfl) (by kernel_rfl) (by kernel_rfl) (fun _ _ _ h => h) (Or.inl ⟨by rfl, fun w' hw' => ?_⟩) hS ?_
  · go_simp
  simp only [Act.put, List.setIfInBounds_toArray, List.set_cons_zero, List.set_cons_succ]
  refine H_put (i := 47) 55 (v := .pointer (some ⟨pp, 0, none⟩)) rfl rfl (by kernel_rfl) (by kernel_rfl) (by kernel_rfl) (fun _ _ _ h => h) (Or.inl ⟨by rfl, fun w' hw' => ?_⟩) hS ?_
  · go_simp
  simp only [Act.put, List.setIfInBounds_toArray, List.set_cons_zero, List.set_cons_succ]
  refine H_put (i := 48) 56 (v := .pointer (some ⟨pp, 3, none⟩)) rfl rfl (by kernel_rfl) (by kernel_rfl) (by kernel_rfl) (fun _ _ _ h => h) (Or.inl ⟨by rfl, fun w' hw' => ?_⟩) hS ?_
  · go_simp
  simp only [Act.put, List.setIfInBounds_toArray, List.set_cons_zero, List.set_cons_succ]
  refine H_put (i := 49) 57 (v := .pointer (some ⟨q, 0, none⟩)) rfl rfl (by kernel_rfl) (by kernel_rfl) (by kernel_rfl) (fun _ _ _ h => h) (Or.inl ⟨by rfl, fun w' hw' => ?_⟩) hS ?_
  · (have c : w'.cell? ⟨pp, 3, none⟩ = some (.pointer (some ⟨q, 0, none⟩)) := below_adds hw' cpp3; clear hw'; go_simp)
  simp only [Act.put, List.setIfInBounds_toArray, List.set_cons_zero, List.set_cons_succ]
  refine H_put (i := 50) 58 (v := .pointer (some ⟨q, 0, none⟩)) rfl rfl (by kernel_rfl) (by kernel_rfl) (by kernel_rfl) (fun _ _ _ h => h) (Or.inl ⟨by rfl, fun w' hw' => ?_⟩) hS ?_
  · go_simp
  simp only [Act.put, List.setIfInBounds_toArray, List.set_cons_zero, List.set_cons_succ]
  refine H_put (i := 51) 59 (v := .pointer (some ⟨q, 2, none⟩)) rfl rfl (by kernel_rfl) (by kernel_rfl) (by kernel_rfl) (fun _ _ _ h => h) (Or.inl ⟨by rfl, fun w' hw' => ?_⟩) hS ?_
  · go_simp
  simp only [Act.put, List.setIfInBounds_toArray, List.set_cons_zero, List.set_cons_succ]
  refine H_put (i := 52) 60 (v := .int .i64 ct) rfl rfl (by kernel_rfl) (by kernel_rfl) (by kernel_rfl) (fun _ _ _ h => h) (Or.inl ⟨by rfl, fun w' hw' => ?_⟩) hS ?_
  · (have c : w'.cell? ⟨q, 2, none⟩ = some (.int .i64 ct) := below_adds hw' cq2; clear hw'; go_simp)
  simp only [Act.put, List.setIfInBounds_toArray, List.set_cons_zero, List.set_cons_succ]
  refine H_call (i := 45) 53 38 #[.pointer (some ⟨p, 0, none⟩)] (by kernel_rfl) rfl rfl (by rfl) (by go_simp) (HCt.out w9 hS) ?_
  rintro e _ ⟨rfl, hw⟩
  rw [hw]
  clear hw
  have hS2 : (fun w' : World => Adds w w') _ := hS
  refine ⟨_, _, rfl, hS2, fun w' h => h, ?_⟩
  clear hS; have hS := hS2; clear hS2
  simp only [Act.put, List.setIfInBounds_toArray, List.set_cons_zero, List.set_cons_succ]
  refine H_put (i := 53) 61 (v := .bool false) rfl rfl (by kernel_rfl) (by kernel_rfl) (by kernel_rfl) (fun _ _ _ h => h) (Or.inl ⟨by rfl, fun w' hw' => ?_⟩) hS ?_
  · go_simp
  simp only [Act.put, List.setIfInBounds_toArray, List.set_cons_zero, List.set_cons_succ]
  refine H_put (i := 54) 62 (v := .bool false) rfl rfl (by kernel_rfl) (by kernel_rfl) (by kernel_rfl) (fun _ _ _ h => h) (Or.inl ⟨by rfl, fun w' hw' => ?_⟩) hS ?_
  · go_simp
  simp only [Act.put, List.setIfInBounds_toArray, List.set_cons_zero, List.set_cons_succ]
  refine H_put (i := 55) 63 (v := .bool false) rfl rfl (by kernel_rfl) (by kernel_rfl) (by kernel_rfl) (fun _ _ _ h => h) (Or.inl ⟨by rfl, fun w' hw' => ?_⟩) hS ?_
  · go_simp
  simp only [Act.put, List.setIfInBounds_toArray, List.set_cons_zero, List.set_cons_succ]
  refine H_put (i := 56) 64 (v := .pointer (some ⟨pp, 0, none⟩)) rfl rfl (by kernel_rfl) (by kernel_rfl) (by kernel_rfl) (fun _ _ _ h => h) (Or.inl ⟨by rfl, fun w' hw' => ?_⟩) hS ?_
  · go_simp
  simp only [Act.put, List.setIfInBounds_toArray, List.set_cons_zero, List.set_cons_succ]
  refine H_put (i := 57) 65 (v := .pointer (some ⟨pp, 0, none⟩)) rfl rfl (by kernel_rfl) (by kernel_rfl) (by kernel_rfl) (fun _ _ _ h => h) (Or.inl ⟨by rfl, fun w' hw' => ?_⟩) hS ?_
  · go_simp
  simp only [Act.put, List.setIfInBounds_toArray, List.set_cons_zero, List.set_cons_succ]
  refine H_put (i := 58) 66 (v := .pointer (some ⟨pp, 0, none⟩)) rfl rfl (by kernel_rfl) (by kernel_rfl) (by kernel_rfl) (fun _ _ _ h => h) (Or.inl ⟨by rfl, fun w' hw' => ?_⟩) hS ?_
  · go_simp
  simp only [Act.put, List.setIfInBounds_toArray, List.set_cons_zero, List.set_cons_succ]
  refine H_put (i := 59) 67 (v := .pointer (some ⟨d, 0, none⟩)) rfl rfl (by kernel_rfl) (by kernel_rfl) (by kernel_rfl) (fun _ _ _ h => h) (Or.inl ⟨by rfl, fun w' hw' => ?_⟩) hS ?_
  · (have c : w'.cell? ⟨pp, 0, none⟩ = some (.pointer (some ⟨d, 0, none⟩)) := below_adds hw' cpp0; clear hw'; go_simp)
  simp only [Act.put, List.setIfInBounds_toArray, List.set_cons_zero, List.set_cons_succ]
  refine H_put (i := 61) 69 (v := .pointer (some ⟨pp, 0, none⟩)) rfl rfl (by kernel_rfl) (by kernel_rfl) (by kernel_rfl) (fun _ _ _ h => h) (Or.inl ⟨by rfl, fun w' hw' => ?_⟩) hS ?_
  · go_simp
  simp only [Act.put, List.setIfInBounds_toArray, List.set_cons_zero, List.set_cons_succ]
  refine H_put (i := 62) 70 (v := .pointer (some ⟨pp, 0, none⟩)) rfl rfl (by kernel_rfl) (by kernel_rfl) (by kernel_rfl) (fun _ _ _ h => h) (Or.inl ⟨by rfl, fun w' hw' => ?_⟩) hS ?_
  · go_simp
  simp only [Act.put, List.setIfInBounds_toArray, List.set_cons_zero, List.set_cons_succ]
  refine H_put (i := 63) 71 (v := .pointer (some ⟨pp, 1, none⟩)) rfl rfl (by kernel_rfl) (by kernel_rfl) (by kernel_rfl) (fun _ _ _ h => h) (Or.inl ⟨by rfl, fun w' hw' => ?_⟩) hS ?_
  · go_simp
  simp only [Act.put, List.setIfInBounds_toArray, List.set_cons_zero, List.set_cons_succ]
  refine H_put (i := 64) 72 (v := .pointer (some ⟨r, 0, none⟩)) rfl rfl (by kernel_rfl) (by kernel_rfl) (by kernel_rfl) (fun _ _ _ h => h) (Or.inl ⟨by rfl, fun w' hw' => ?_⟩) hS ?_
  · (have c : w'.cell? ⟨pp, 1, none⟩ = some (.pointer (some ⟨r, 0, none⟩)) := below_adds hw' cpp1; clear hw'; go_simp)
  simp only [Act.put, List.setIfInBounds_toArray, List.set_cons_zero, List.set_cons_succ]
  refine H_put (i := 65) 73 (v := .pointer (some ⟨r, 0, none⟩)) rfl rfl (by kernel_rfl) (by kernel_rfl) (by kernel_rfl) (fun _ _ _ h => h) (Or.inl ⟨by rfl, fun w' hw' => ?_⟩) hS ?_
  · go_simp
  simp only [Act.put, List.setIfInBounds_toArray, List.set_cons_zero, List.set_cons_succ]
  refine H_put (i := 66) 74 (v := .pointer (some ⟨r, 2, none⟩)) rfl rfl (by kernel_rfl) (by kernel_rfl) (by kernel_rfl) (fun _ _ _ h => h) (Or.inl ⟨by rfl, fun w' hw' => ?_⟩) hS ?_
  · go_simp
  simp only [Act.put, List.setIfInBounds_toArray, List.set_cons_zero, List.set_cons_succ]
  refine H_put (i := 67) 75 (v := .int .i64 st) rfl rfl (by kernel_rfl) (by kernel_rfl) (by kernel_rfl) (fun _ _ _ h => h) (Or.inl ⟨by rfl, fun w' hw' => ?_⟩) hS ?_
  · (have c : w'.cell? ⟨r, 2, none⟩ = some (.int .i64 st) := below_adds hw' cr2; clear hw'; go_simp)
  simp only [Act.put, List.setIfInBounds_toArray, List.set_cons_zero, List.set_cons_succ]
  refine H_call (i := 60) 68 17 #[.pointer (some ⟨d, 0, none⟩)] (by kernel_rfl) rfl rfl (by rfl) (by go_simp) (HSt.out w9 hS) ?_
  rintro e _ ⟨rfl, hw⟩
  rw [hw]
  clear hw
  have hS2 : (fun w' : World => Adds w w') _ := hS
  refine ⟨_, _, rfl, hS2, fun w' h => h, ?_⟩
  clear hS; have hS := hS2; clear hS2
  simp only [Act.put, List.setIfInBounds_toArray, List.set_cons_zero, List.set_cons_succ]
  refine H_put (i := 68) 76 (v := .bool false) rfl rfl (by kernel_rfl) (by kernel_rfl) (by kernel_rfl) (fun _ _ _ h => h) (Or.inl ⟨by rfl, fun w' hw' => ?_⟩) hS ?_
  · go_simp
  simp only [Act.put, List.setIfInBounds_toArray, List.set_cons_zero, List.set_cons_succ]
  refine H_put (i := 69) 77 (v := .bool false) rfl rfl (by kernel_rfl) (by kernel_rfl) (by kernel_rfl) (fun _ _ _ h => h) (Or.inl ⟨by rfl, fun w' hw' => ?_⟩) hS ?_
  · go_simp
  simp only [Act.put, List.setIfInBounds_toArray, List.set_cons_zero, List.set_cons_succ]
  refine wpAnyH_done (by kernel_rfl) ?_ _
  have HM := hid (HP.out.adds hS)
  clear hS cpp0 cpp1 cpp2 cpp3 cq2 cr2
  have hpb := HM.out.other _ HXm.out
  obtain ⟨g2, gc2, e2⟩ := HRb.out _ HM.out
  have e1 : w9.cell? ⟨pp, 1, none⟩ = some (.pointer (some ⟨r, 0, none⟩)) := cellOf hpb 1
  clear hpb
  go_wp2_with fail
  clear e1 e2
  go_loopw [86] (fun i wy => ∃ j : Nat, j ≤ sn ∧ i = .int .i64 (j : Int) ∧ Hid (PwE w0 wy X p d q r s s D D n k)) (fun i _ => sn - (intOf i).toNat)
  case atStart => exact ⟨0, Nat.zero_le _, rfl, HM.out⟩
  case round =>
    obtain ⟨j, hj, rfl, HJ⟩ := hrel
    by_cases hjl : j < sn
    · have d0 : wr.cell? ⟨pp, 0, none⟩ = some (.pointer (some ⟨d, 0, none⟩)) := cellOf (HJ.out.other _ HXm.out) 0
      obtain ⟨b, hs⟩ : ∃ b, b = rdS D (j : Int) := ⟨_, rfl⟩
      obtain ⟨z, hz⟩ : ∃ z, z = if D.left = 0 then (10 : Int) else 0 := ⟨_, rfl⟩
      have HA4 := hid (HDr.out wr HJ.out j hjl b z hs hz)
      have HB4 := hid (fun w1 (h1 : PwE w0 w1 X p d q r s s D D n k) => HRr.out w1 h1 j hjl b z hs hz)
      have hss : (b == b) = true := by simp
      have hss2 : ((⟨b.toArray⟩ : ByteArray).toList == (⟨b.toArray⟩ : ByteArray).toList) = true := by simp
      clear hs hz
      go_wp2_with (first
        | (go_at_call 39; refine HA4.out.mono ?_; rintro e wA ⟨sa, sm, scap, rfl, HX4⟩
           have HMA := hid (HJ.out.adds HX4.out.2.2)
           have d11 : wA.cell? ⟨pp, 1, none⟩ = some (.pointer (some ⟨r, 0, none⟩)) := cellOf (HMA.out.other _ HXm.out) 1
           have hcv : (convert 37 9 (.slice sa sm scap)).run Tryz.prog wA = .ok (.string ⟨b.toArray⟩) wA := by (have q := conv_at wA sa b scap HX4.out.1; rw [HX4.out.2.1] at q; exact q))
        | (go_at_call 40; refine (HB4.out wA HMA.out).mono ?_; rintro e _ ⟨rfl, hw⟩; rw [hw]; clear hw))
      go_roundw
      case rel => exact ⟨j + 1, by omega, by go_num, HMA.out⟩
      case measure => simp [intOf]; omega
    · obtain rfl : j = sn := by omega
      go_wp2_with fail
      go_ret
      exact ⟨rfl, HJ.out⟩
end Go.Proofs.YtjbdchgadfhffaaGreatDoor

/- Acts of a pair of pools: Accept, Drop, Flush. -/
namespace Go.Proofs.YtjbdchgadfhffaaGreatDoor
open Go.RowKit
set_option maxRecDepth 100000 in
set_option maxHeartbeats 4000000 in
theorem does11_accept {w0 w : World} {pp p d q r n : Nat} {s : F.Po} {D : dSt} (h : PwE w0 w [(pp, PB11 d r (Ptr p) (Ptr q))] p d q r s s D D n (11 * n)) (hpp : w0.heap.size ≤ pp) (hnl : F.Nil s) (hs8 : D.size ≤ 8) (hn : n ≤ 30) (no off z : Int) (fa : Option Addr) (fn fc : Nat) (c : UInt8) (ka : Option Addr) (kn kc : Nat) (torn at_ : Int) :
    Calls Tryz.prog 8 #[Ptr pp, .agg (act11 2 no off z fa fn fc c ka kn kc torn at_)] w (PDo11 w0 pp (n + 1)) := by
  obtain ⟨ab, hab⟩ : ∃ ab, ab = w.heap.size := ⟨_, rfl⟩
  obtain ⟨wd, hwd⟩ : ∃ wd, wd = w.alloc (AB11 2 no off z fa fn fc c ka kn kc torn at_) := ⟨_, rfl⟩
  have HP := hid (show PwE w0 wd [(ab, AB11 2 no off z fa fn fc c ka kn kc torn at_), (pp, PB11 d r (Ptr p) (Ptr q))] p d q r s s D D n (11 * n) by rw [hwd, hab]; exact h.more ((Touch.refl _ w).alloc _) w.heap.size _ (heap_alloc_new w _) (Nat.le_refl _))
  have HPP := hid hpp
  have HN := hid (And.intro hnl (And.intro hs8 hn))
  have HG := hid h.facts
  have HPx := hid (HP.out.other (pp, PB11 d r (Ptr p) (Ptr q)) (List.mem_cons_of_mem _ List.mem_cons_self))
  have HAx := hid (HP.out.other (ab, AB11 2 no off z fa fn fc c ka kn kc torn at_) List.mem_cons_self)
  have hl9 : s.L.length ≤ 10000 := by have := HG.out.1.len; have := HG.out.2.1.mo2; omega
  have e0 : (w.alloc (AB11 2 no off z fa fn fc c ka kn kc torn at_)).cell? ⟨w.heap.size, 0, none⟩ = some (.int .i64 2) := cellOf (heap_alloc_new w _) 0
  obtain ⟨zz, hzz⟩ : ∃ zz : Int, zz = ((F.which s F.isFresh).length : Int) := ⟨_, rfl⟩
  have HC1 := hid (show Calls Tryz.prog 15 #[Ptr p] wd.drew (PPw w0 [(ab, AB11 2 no off z fa fn fc c ka kn kc torn at_), (pp, PB11 d r (Ptr p) (Ptr q))] p d q r (F.accS s) s D D n (11 * n) (.int .i64 zz)) by rw [hzz]; exact pw_accept (HP.out.adds (Touch.refl _ wd).drew))
  have HC2 := hid (fun (w2 : World) (h2 : PwE w0 w2 [(ab, AB11 2 no off z fa fn fc c ka kn kc torn at_), (pp, PB11 d r (Ptr p) (Ptr q))] p d q r (F.accS s) s D D n (11 * n)) => show Calls Tryz.prog 25 #[Ptr q] w2 (PPw w0 [(ab, AB11 2 no off z fa fn fc c ka kn kc torn at_), (pp, PB11 d r (Ptr p) (Ptr q))] p d q r (F.accS s) (F.accS s) D D n (11 * n) (.int .i64 zz)) by rw [hzz]; exact pq_accept h2 hl9)
  clear hzz
  clear h hpp hnl hs8 hn hl9
  go_enter Tryz.func8, Tryz.ntmps8
  go_upto_region 23 with fail
  rw [← hab, ← hwd]
  clear hab hwd e0
  refine H_begin (S := fun w' : World => w'.heap[pp]? = some (PB11 d r (Ptr p) (Ptr q)) ∧ w'.heap[ab]? = some (AB11 2 no off z fa fn fc c ka kn kc torn at_)) (by kernel_rfl) ?_
  have hS : (fun w' : World => w'.heap[pp]? = some (PB11 d r (Ptr p) (Ptr q)) ∧ w'.heap[ab]? = some (AB11 2 no off z fa fn fc c ka kn kc torn at_)) wd.drew := ⟨HPx.out, HAx.out⟩
  refine H_put (i := 0) 99 (v := Ptr pp) rfl rfl (by kernel_rfl) (by kernel_rfl) (by kernel_rfl) (fun _ _ _ h => h) (Or.inl ⟨by rfl, fun w' hw' => ?_⟩) hS ?_
  · go_simp
  simp only [Act.put, List.setIfInBounds_toArray, List.set_cons_zero, List.set_cons_succ]
  refine H_put (i := 1) 100 (v := Ptr pp) rfl rfl (by kernel_rfl) (by kernel_rfl) (by kernel_rfl) (fun _ _ _ h => h) (Or.inl ⟨by rfl, fun w' hw' => ?_⟩) hS ?_
  · go_simp
  simp only [Act.put, List.setIfInBounds_toArray, List.set_cons_zero, List.set_cons_succ]
  refine H_put (i := 2) 101 (v := .pointer (some ⟨pp, 2, none⟩)) rfl rfl (by kernel_rfl) (by kernel_rfl) (by kernel_rfl) (fun _ _ _ h => h) (Or.inl ⟨by rfl, fun w' hw' => ?_⟩) hS ?_
  · go_simp
  simp only [Act.put, List.setIfInBounds_toArray, List.set_cons_zero, List.set_cons_succ]
  refine H_put (i := 3) 102 (v := Ptr p) rfl rfl (by kernel_rfl) (by kernel_rfl) (by kernel_rfl) (fun _ _ _ h => h) (Or.inl ⟨by rfl, fun w' hw' => ?_⟩) hS ?_
  · have c : w'.cell? ⟨pp, 2, none⟩ = some (Ptr p) := cellOf hw'.1 2; go_simp
  simp only [Act.put, List.setIfInBounds_toArray, List.set_cons_zero, List.set_cons_succ]
  refine H_put (i := 5) 104 (v := Ptr pp) rfl rfl (by kernel_rfl) (by kernel_rfl) (by kernel_rfl) (fun _ _ _ h => h) (Or.inl ⟨by rfl, fun w' hw' => ?_⟩) hS ?_
  · go_simp
  simp only [Act.put, List.setIfInBounds_toArray, List.set_cons_zero, List.set_cons_succ]
  refine H_put (i := 6) 105 (v := Ptr pp) rfl rfl (by kernel_rfl) (by kernel_rfl) (by kernel_rfl) (fun _ _ _ h => h) (Or.inl ⟨by rfl, fun w' hw' => ?_⟩) hS ?_
  · go_simp
  simp only [Act.put, List.setIfInBounds_toArray, List.set_cons_zero, List.set_cons_succ]
  refine H_put (i := 7) 106 (v := .pointer (some ⟨pp, 3, none⟩)) rfl rfl (by kernel_rfl) (by kernel_rfl) (by kernel_rfl) (fun _ _ _ h => h) (Or.inl ⟨by rfl, fun w' hw' => ?_⟩) hS ?_
  · go_simp
  simp only [Act.put, List.setIfInBounds_toArray, List.set_cons_zero, List.set_cons_succ]
  refine H_put (i := 8) 107 (v := Ptr q) rfl rfl (by kernel_rfl) (by kernel_rfl) (by kernel_rfl) (fun _ _ _ h => h) (Or.inl ⟨by rfl, fun w' hw' => ?_⟩) hS ?_
  · have c : w'.cell? ⟨pp, 3, none⟩ = some (Ptr q) := cellOf hw'.1 3; go_simp
  simp only [Act.put, List.setIfInBounds_toArray, List.set_cons_zero, List.set_cons_succ]
  refine H_call (i := 4) 103 15 #[Ptr p] (by kernel_rfl) rfl rfl (by rfl) (by go_simp) (HC1.out) ?_
  rintro e w2 ⟨rfl, H2⟩
  have hS2 : (fun w' : World => w'.heap[pp]? = some (PB11 d r (Ptr p) (Ptr q)) ∧ w'.heap[ab]? = some (AB11 2 no off z fa fn fc c ka kn kc torn at_)) _ := ⟨H2.out.other (pp, PB11 d r (Ptr p) (Ptr q)) (List.mem_cons_of_mem _ List.mem_cons_self), H2.out.other (ab, AB11 2 no off z fa fn fc c ka kn kc torn at_) List.mem_cons_self⟩
  refine ⟨_, _, rfl, hS2, fun w' h => h, ?_⟩
  clear hS; have hS := hS2; clear hS2
  simp only [Act.put, List.setIfInBounds_toArray, List.set_cons_zero, List.set_cons_succ]
  refine H_call (i := 9) 108 25 #[Ptr q] (by kernel_rfl) rfl rfl (by rfl) (by go_simp) (HC2.out w2 H2.out) ?_
  rintro e w3 ⟨rfl, H3⟩
  have hS2 : (fun w' : World => w'.heap[pp]? = some (PB11 d r (Ptr p) (Ptr q)) ∧ w'.heap[ab]? = some (AB11 2 no off z fa fn fc c ka kn kc torn at_)) _ := ⟨H3.out.other (pp, PB11 d r (Ptr p) (Ptr q)) (List.mem_cons_of_mem _ List.mem_cons_self), H3.out.other (ab, AB11 2 no off z fa fn fc c ka kn kc torn at_) List.mem_cons_self⟩
  refine ⟨_, _, rfl, hS2, fun w' h => h, ?_⟩
  clear hS; have hS := hS2; clear hS2
  simp only [Act.put, List.setIfInBounds_toArray, List.set_cons_zero, List.set_cons_succ]
  refine H_put (i := 10) 109 (v := .bool true) rfl rfl (by kernel_rfl) (by kernel_rfl) (by kernel_rfl) (fun _ _ _ h => h) (Or.inl ⟨by rfl, fun w' hw' => ?_⟩) hS ?_
  · go_simp
  simp only [Act.put, List.setIfInBounds_toArray, List.set_cons_zero, List.set_cons_succ]
  refine H_put (i := 11) 4 (v := .bool true) rfl rfl (by kernel_rfl) (by kernel_rfl) (by kernel_rfl) (fun _ _ _ h => h) (Or.inl ⟨by rfl, fun w' hw' => ?_⟩) hS ?_
  · go_simp
  simp only [Act.put, List.setIfInBounds_toArray, List.set_cons_zero, List.set_cons_succ]
  refine wpAnyH_done (by kernel_rfl) ?_ _
  clear hS
  go_wp2_with fail
  go_ret
  exact ⟨rfl, p, d, q, r, _, _, (H3.out.fewer (fun x hx => List.mem_cons_of_mem _ hx)).later (by omega) (by omega), HN.out.1.acc, HN.out.2.1⟩
set_option maxRecDepth 100000 in
set_option maxHeartbeats 4000000 in
theorem does11_drop {w0 w : World} {pp p d q r n : Nat} {s : F.Po} {D : dSt} (h : PwE w0 w [(pp, PB11 d r (Ptr p) (Ptr q))] p d q r s s D D n (11 * n)) (hpp : w0.heap.size ≤ pp) (hnl : F.Nil s) (hs8 : D.size ≤ 8) (hn : n ≤ 30) (no off z : Int) (fa : Option Addr) (fn fc : Nat) (c : UInt8) (ka : Option Addr) (kn kc : Nat) (torn at_ : Int) :
    Calls Tryz.prog 8 #[Ptr pp, .agg (act11 3 no off z fa fn fc c ka kn kc torn at_)] w (PDo11 w0 pp (n + 1)) := by
  obtain ⟨ab, hab⟩ : ∃ ab, ab = w.heap.size := ⟨_, rfl⟩
  obtain ⟨wd, hwd⟩ : ∃ wd, wd = w.alloc (AB11 3 no off z fa fn fc c ka kn kc torn at_) := ⟨_, rfl⟩
  have HP := hid (show PwE w0 wd [(ab, AB11 3 no off z fa fn fc c ka kn kc torn at_), (pp, PB11 d r (Ptr p) (Ptr q))] p d q r s s D D n (11 * n) by rw [hwd, hab]; exact h.more ((Touch.refl _ w).alloc _) w.heap.size _ (heap_alloc_new w _) (Nat.le_refl _))
  have HPP := hid hpp
  have HN := hid (And.intro hnl (And.intro hs8 hn))
  have HG := hid h.facts
  have HPx := hid (HP.out.other (pp, PB11 d r (Ptr p) (Ptr q)) (List.mem_cons_of_mem _ List.mem_cons_self))
  have HAx := hid (HP.out.other (ab, AB11 3 no off z fa fn fc c ka kn kc torn at_) List.mem_cons_self)
  have hl9 : s.L.length ≤ 10000 := by have := HG.out.1.len; have := HG.out.2.1.mo2; omega
  have e0 : (w.alloc (AB11 3 no off z fa fn fc c ka kn kc torn at_)).cell? ⟨w.heap.size, 0, none⟩ = some (.int .i64 3) := cellOf (heap_alloc_new w _) 0
  obtain ⟨zz, hzz⟩ : ∃ zz : Int, zz = ((F.which s F.isFresh).length : Int) := ⟨_, rfl⟩
  have HC1 := hid (show Calls Tryz.prog 26 #[Ptr p] wd.drew (PPw w0 [(ab, AB11 3 no off z fa fn fc c ka kn kc torn at_), (pp, PB11 d r (Ptr p) (Ptr q))] p d q r (F.dropS s) s D D n (11 * n) (.int .i64 zz)) by rw [hzz]; exact pw_drop (HP.out.adds (Touch.refl _ wd).drew))
  have HC2 := hid (fun (w2 : World) (h2 : PwE w0 w2 [(ab, AB11 3 no off z fa fn fc c ka kn kc torn at_), (pp, PB11 d r (Ptr p) (Ptr q))] p d q r (F.dropS s) s D D n (11 * n)) => show Calls Tryz.prog 27 #[Ptr q] w2 (PPw w0 [(ab, AB11 3 no off z fa fn fc c ka kn kc torn at_), (pp, PB11 d r (Ptr p) (Ptr q))] p d q r (F.dropS s) (F.dropS s) D D n (11 * n) (.int .i64 zz)) by rw [hzz]; exact pq_drop h2 hl9)
  clear hzz
  clear h hpp hnl hs8 hn hl9
  go_enter Tryz.func8, Tryz.ntmps8
  go_upto_region 25 with fail
  rw [← hab, ← hwd]
  clear hab hwd e0
  refine H_begin (S := fun w' : World => w'.heap[pp]? = some (PB11 d r (Ptr p) (Ptr q)) ∧ w'.heap[ab]? = some (AB11 3 no off z fa fn fc c ka kn kc torn at_)) (by kernel_rfl) ?_
  have hS : (fun w' : World => w'.heap[pp]? = some (PB11 d r (Ptr p) (Ptr q)) ∧ w'.heap[ab]? = some (AB11 3 no off z fa fn fc c ka kn kc torn at_)) wd.drew := ⟨HPx.out, HAx.out⟩
  refine H_put (i := 0) 112 (v := Ptr pp) rfl rfl (by kernel_rfl) (by kernel_rfl) (by kernel_rfl) (fun _ _ _ h => h) (Or.inl ⟨by rfl, fun w' hw' => ?_⟩) hS ?_
  · go_simp
  simp only [Act.put, List.setIfInBounds_toArray, List.set_cons_zero, List.set_cons_succ]
  refine H_put (i := 1) 113 (v := Ptr pp) rfl rfl (by kernel_rfl) (by kernel_rfl) (by kernel_rfl) (fun _ _ _ h => h) (Or.inl ⟨by rfl, fun w' hw' => ?_⟩) hS ?_
  · go_simp
  simp only [Act.put, List.setIfInBounds_toArray, List.set_cons_zero, List.set_cons_succ]
  refine H_put (i := 2) 114 (v := .pointer (some ⟨pp, 2, none⟩)) rfl rfl (by kernel_rfl) (by kernel_rfl) (by kernel_rfl) (fun _ _ _ h => h) (Or.inl ⟨by rfl, fun w' hw' => ?_⟩) hS ?_
  · go_simp
  simp only [Act.put, List.setIfInBounds_toArray, List.set_cons_zero, List.set_cons_succ]
  refine H_put (i := 3) 115 (v := Ptr p) rfl rfl (by kernel_rfl) (by kernel_rfl) (by kernel_rfl) (fun _ _ _ h => h) (Or.inl ⟨by rfl, fun w' hw' => ?_⟩) hS ?_
  · have c : w'.cell? ⟨pp, 2, none⟩ = some (Ptr p) := cellOf hw'.1 2; go_simp
  simp only [Act.put, List.setIfInBounds_toArray, List.set_cons_zero, List.set_cons_succ]
  refine H_put (i := 5) 117 (v := Ptr pp) rfl rfl (by kernel_rfl) (by kernel_rfl) (by kernel_rfl) (fun _ _ _ h => h) (Or.inl ⟨by rfl, fun w' hw' => ?_⟩) hS ?_
  · go_simp
  simp only [Act.put, List.setIfInBounds_toArray, List.set_cons_zero, List.set_cons_succ]
  refine H_put (i := 6) 118 (v := Ptr pp) rfl rfl (by kernel_rfl) (by kernel_rfl) (by kernel_rfl) (fun _ _ _ h => h) (Or.inl ⟨by rfl, fun w' hw' => ?_⟩) hS ?_
  · go_simp
  simp only [Act.put, List.setIfInBounds_toArray, List.set_cons_zero, List.set_cons_succ]
  refine H_put (i := 7) 119 (v := .pointer (some ⟨pp, 3, none⟩)) rfl rfl (by kernel_rfl) (by kernel_rfl) (by kernel_rfl) (fun _ _ _ h => h) (Or.inl ⟨by rfl, fun w' hw' => ?_⟩) hS ?_
  · go_simp
  simp only [Act.put, List.setIfInBounds_toArray, List.set_cons_zero, List.set_cons_succ]
  refine H_put (i := 8) 120 (v := Ptr q) rfl rfl (by kernel_rfl) (by kernel_rfl) (by kernel_rfl) (fun _ _ _ h => h) (Or.inl ⟨by rfl, fun w' hw' => ?_⟩) hS ?_
  · have c : w'.cell? ⟨pp, 3, none⟩ = some (Ptr q) := cellOf hw'.1 3; go_simp
  simp only [Act.put, List.setIfInBounds_toArray, List.set_cons_zero, List.set_cons_succ]
  refine H_call (i := 4) 116 26 #[Ptr p] (by kernel_rfl) rfl rfl (by rfl) (by go_simp) (HC1.out) ?_
  rintro e w2 ⟨rfl, H2⟩
  have hS2 : (fun w' : World => w'.heap[pp]? = some (PB11 d r (Ptr p) (Ptr q)) ∧ w'.heap[ab]? = some (AB11 3 no off z fa fn fc c ka kn kc torn at_)) _ := ⟨H2.out.other (pp, PB11 d r (Ptr p) (Ptr q)) (List.mem_cons_of_mem _ List.mem_cons_self), H2.out.other (ab, AB11 3 no off z fa fn fc c ka kn kc torn at_) List.mem_cons_self⟩
  refine ⟨_, _, rfl, hS2, fun w' h => h, ?_⟩
  clear hS; have hS := hS2; clear hS2
  simp only [Act.put, List.setIfInBounds_toArray, List.set_cons_zero, List.set_cons_succ]
  refine H_call (i := 9) 121 27 #[Ptr q] (by kernel_rfl) rfl rfl (by rfl) (by go_simp) (HC2.out w2 H2.out) ?_
  rintro e w3 ⟨rfl, H3⟩
  have hS2 : (fun w' : World => w'.heap[pp]? = some (PB11 d r (Ptr p) (Ptr q)) ∧ w'.heap[ab]? = some (AB11 3 no off z fa fn fc c ka kn kc torn at_)) _ := ⟨H3.out.other (pp, PB11 d r (Ptr p) (Ptr q)) (List.mem_cons_of_mem _ List.mem_cons_self), H3.out.other (ab, AB11 3 no off z fa fn fc c ka kn kc torn at_) List.mem_cons_self⟩
  refine ⟨_, _, rfl, hS2, fun w' h => h, ?_⟩
  clear hS; have hS := hS2; clear hS2
  simp only [Act.put, List.setIfInBounds_toArray, List.set_cons_zero, List.set_cons_succ]
  refine H_put (i := 10) 122 (v := .bool true) rfl rfl (by kernel_rfl) (by kernel_rfl) (by kernel_rfl) (fun _ _ _ h => h) (Or.inl ⟨by rfl, fun w' hw' => ?_⟩) hS ?_
  · go_simp
  simp only [Act.put, List.setIfInBounds_toArray, List.set_cons_zero, List.set_cons_succ]
  refine H_put (i := 11) 4 (v := .bool true) rfl rfl (by kernel_rfl) (by kernel_rfl) (by kernel_rfl) (fun _ _ _ h => h) (Or.inl ⟨by rfl, fun w' hw' => ?_⟩) hS ?_
  · go_simp
  simp only [Act.put, List.setIfInBounds_toArray, List.set_cons_zero, List.set_cons_succ]
  refine wpAnyH_done (by kernel_rfl) ?_ _
  clear hS
  go_wp2_with fail
  go_ret
  exact ⟨rfl, p, d, q, r, _, _, (H3.out.fewer (fun x hx => List.mem_cons_of_mem _ hx)).later (by omega) (by omega), HN.out.1.drop, HN.out.2.1⟩
set_option maxRecDepth 100000 in
set_option maxHeartbeats 4000000 in
theorem does11_flush {w0 w : World} {pp p d q r n : Nat} {s : F.Po} {D : dSt} (h : PwE w0 w [(pp, PB11 d r (Ptr p) (Ptr q))] p d q r s s D D n (11 * n)) (hpp : w0.heap.size ≤ pp) (hnl : F.Nil s) (hs8 : D.size ≤ 8) (hn : n ≤ 30) (no off z : Int) (fa : Option Addr) (fn fc : Nat) (c : UInt8) (ka : Option Addr) (kn kc : Nat) (torn at_ : Int) :
    Calls Tryz.prog 8 #[Ptr pp, .agg (act11 4 no off z fa fn fc c ka kn kc torn at_)] w (PDo11 w0 pp (n + 1)) := by
  obtain ⟨ab, hab⟩ : ∃ ab, ab = w.heap.size := ⟨_, rfl⟩
  obtain ⟨wd, hwd⟩ : ∃ wd, wd = w.alloc (AB11 4 no off z fa fn fc c ka kn kc torn at_) := ⟨_, rfl⟩
  have HP := hid (show PwE w0 wd [(ab, AB11 4 no off z fa fn fc c ka kn kc torn at_), (pp, PB11 d r (Ptr p) (Ptr q))] p d q r s s D D n (11 * n) by rw [hwd, hab]; exact h.more ((Touch.refl _ w).alloc _) w.heap.size _ (heap_alloc_new w _) (Nat.le_refl _))
  have HPP := hid hpp
  have HN := hid (And.intro hnl (And.intro hs8 hn))
  have HG := hid h.facts
  have HPx := hid (HP.out.other (pp, PB11 d r (Ptr p) (Ptr q)) (List.mem_cons_of_mem _ List.mem_cons_self))
  have HAx := hid (HP.out.other (ab, AB11 4 no off z fa fn fc c ka kn kc torn at_) List.mem_cons_self)
  have hl9 : s.L.length ≤ 10000 := by have := HG.out.1.len; have := HG.out.2.1.mo2; omega
  have e0 : (w.alloc (AB11 4 no off z fa fn fc c ka kn kc torn at_)).cell? ⟨w.heap.size, 0, none⟩ = some (.int .i64 4) := cellOf (heap_alloc_new w _) 0
  have hw8 : (F.which s F.isDirty).length ≤ 8 := by have := which_le HG.out.1 HG.out.2.1 F.isDirty; omega
  obtain ⟨zz, hzz⟩ : ∃ zz : Int, zz = (F.flX s D).1 := ⟨_, rfl⟩
  have HC1 := hid (show Calls Tryz.prog 16 #[Ptr p] wd.drew (PPw w0 [(ab, AB11 4 no off z fa fn fc c ka kn kc torn at_), (pp, PB11 d r (Ptr p) (Ptr q))] p d q r (F.flS s D) s (F.flX s D).2 D n (11 * n + (F.which s F.isDirty).length + 1) (.int .i64 zz)) by rw [hzz]; exact pw_flush (HP.out.adds (Touch.refl _ wd).drew) (by omega))
  have HC2 := hid (fun (w2 : World) (h2 : PwE w0 w2 [(ab, AB11 4 no off z fa fn fc c ka kn kc torn at_), (pp, PB11 d r (Ptr p) (Ptr q))] p d q r (F.flS s D) s (F.flX s D).2 D n (11 * n + (F.which s F.isDirty).length + 1)) => show Calls Tryz.prog 28 #[Ptr q] w2 (PPw w0 [(ab, AB11 4 no off z fa fn fc c ka kn kc torn at_), (pp, PB11 d r (Ptr p) (Ptr q))] p d q r (F.flS s D) (F.flS s D) (F.flX s D).2 (F.flX s D).2 n (11 * n + (F.which s F.isDirty).length + 1) (.int .i64 zz)) by rw [hzz]; exact pq_flush h2 HG.out.1 HG.out.2.1 HG.out.2.2.1 (by omega))
  clear hzz
  clear h hpp hnl hs8 hn hl9
  go_enter Tryz.func8, Tryz.ntmps8
  go_upto_region 27 with fail
  rw [← hab, ← hwd]
  clear hab hwd e0
  refine H_begin (S := fun w' : World => w'.heap[pp]? = some (PB11 d r (Ptr p) (Ptr q)) ∧ w'.heap[ab]? = some (AB11 4 no off z fa fn fc c ka kn kc torn at_)) (by kernel_rfl) ?_
  have hS : (fun w' : World => w'.heap[pp]? = some (PB11 d r (Ptr p) (Ptr q)) ∧ w'.heap[ab]? = some (AB11 4 no off z fa fn fc c ka kn kc torn at_)) wd.drew := ⟨HPx.out, HAx.out⟩
  refine H_put (i := 0) 125 (v := Ptr pp) rfl rfl (by kernel_rfl) (by kernel_rfl) (by kernel_rfl) (fun _ _ _ h => h) (Or.inl ⟨by rfl, fun w' hw' => ?_⟩) hS ?_
  · go_simp
  simp only [Act.put, List.setIfInBounds_toArray, List.set_cons_zero, List.set_cons_succ]
  refine H_put (i := 1) 126 (v := Ptr pp) rfl rfl (by kernel_rfl) (by kernel_rfl) (by kernel_rfl) (fun _ _ _ h => h) (Or.inl ⟨by rfl, fun w' hw' => ?_⟩) hS ?_
  · go_simp
  simp only [Act.put, List.setIfInBounds_toArray, List.set_cons_zero, List.set_cons_succ]
  refine H_put (i := 2) 127 (v := .pointer (some ⟨pp, 2, none⟩)) rfl rfl (by kernel_rfl) (by kernel_rfl) (by kernel_rfl) (fun _ _ _ h => h) (Or.inl ⟨by rfl, fun w' hw' => ?_⟩) hS ?_
  · go_simp
  simp only [Act.put, List.setIfInBounds_toArray, List.set_cons_zero, List.set_cons_succ]
  refine H_put (i := 3) 128 (v := Ptr p) rfl rfl (by kernel_rfl) (by kernel_rfl) (by kernel_rfl) (fun _ _ _ h => h) (Or.inl ⟨by rfl, fun w' hw' => ?_⟩) hS ?_
  · have c : w'.cell? ⟨pp, 2, none⟩ = some (Ptr p) := cellOf hw'.1 2; go_simp
  simp only [Act.put, List.setIfInBounds_toArray, List.set_cons_zero, List.set_cons_succ]
  refine H_put (i := 5) 130 (v := Ptr pp) rfl rfl (by kernel_rfl) (by kernel_rfl) (by kernel_rfl) (fun _ _ _ h => h) (Or.inl ⟨by rfl, fun w' hw' => ?_⟩) hS ?_
  · go_simp
  simp only [Act.put, List.setIfInBounds_toArray, List.set_cons_zero, List.set_cons_succ]
  refine H_put (i := 6) 131 (v := Ptr pp) rfl rfl (by kernel_rfl) (by kernel_rfl) (by kernel_rfl) (fun _ _ _ h => h) (Or.inl ⟨by rfl, fun w' hw' => ?_⟩) hS ?_
  · go_simp
  simp only [Act.put, List.setIfInBounds_toArray, List.set_cons_zero, List.set_cons_succ]
  refine H_put (i := 7) 132 (v := .pointer (some ⟨pp, 3, none⟩)) rfl rfl (by kernel_rfl) (by kernel_rfl) (by kernel_rfl) (fun _ _ _ h => h) (Or.inl ⟨by rfl, fun w' hw' => ?_⟩) hS ?_
  · go_simp
  simp only [Act.put, List.setIfInBounds_toArray, List.set_cons_zero, List.set_cons_succ]
  refine H_put (i := 8) 133 (v := Ptr q) rfl rfl (by kernel_rfl) (by kernel_rfl) (by kernel_rfl) (fun _ _ _ h => h) (Or.inl ⟨by rfl, fun w' hw' => ?_⟩) hS ?_
  · have c : w'.cell? ⟨pp, 3, none⟩ = some (Ptr q) := cellOf hw'.1 3; go_simp
  simp only [Act.put, List.setIfInBounds_toArray, List.set_cons_zero, List.set_cons_succ]
  refine H_call (i := 4) 129 16 #[Ptr p] (by kernel_rfl) rfl rfl (by rfl) (by go_simp) (HC1.out) ?_
  rintro e w2 ⟨rfl, H2⟩
  have hS2 : (fun w' : World => w'.heap[pp]? = some (PB11 d r (Ptr p) (Ptr q)) ∧ w'.heap[ab]? = some (AB11 4 no off z fa fn fc c ka kn kc torn at_)) _ := ⟨H2.out.other (pp, PB11 d r (Ptr p) (Ptr q)) (List.mem_cons_of_mem _ List.mem_cons_self), H2.out.other (ab, AB11 4 no off z fa fn fc c ka kn kc torn at_) List.mem_cons_self⟩
  refine ⟨_, _, rfl, hS2, fun w' h => h, ?_⟩
  clear hS; have hS := hS2; clear hS2
  simp only [Act.put, List.setIfInBounds_toArray, List.set_cons_zero, List.set_cons_succ]
  refine H_call (i := 9) 134 28 #[Ptr q] (by kernel_rfl) rfl rfl (by rfl) (by go_simp) (HC2.out w2 H2.out) ?_
  rintro e w3 ⟨rfl, H3⟩
  have hS2 : (fun w' : World => w'.heap[pp]? = some (PB11 d r (Ptr p) (Ptr q)) ∧ w'.heap[ab]? = some (AB11 4 no off z fa fn fc c ka kn kc torn at_)) _ := ⟨H3.out.other (pp, PB11 d r (Ptr p) (Ptr q)) (List.mem_cons_of_mem _ List.mem_cons_self), H3.out.other (ab, AB11 4 no off z fa fn fc c ka kn kc torn at_) List.mem_cons_self⟩
  refine ⟨_, _, rfl, hS2, fun w' h => h, ?_⟩
  clear hS; have hS := hS2; clear hS2
  simp only [Act.put, List.setIfInBounds_toArray, List.set_cons_zero, List.set_cons_succ]
  refine H_put (i := 10) 135 (v := .bool true) rfl rfl (by kernel_rfl) (by kernel_rfl) (by kernel_rfl) (fun _ _ _ h => h) (Or.inl ⟨by rfl, fun w' hw' => ?_⟩) hS ?_
  · go_simp
  simp only [Act.put, List.setIfInBounds_toArray, List.set_cons_zero, List.set_cons_succ]
  refine H_put (i := 11) 4 (v := .bool true) rfl rfl (by kernel_rfl) (by kernel_rfl) (by kernel_rfl) (fun _ _ _ h => h) (Or.inl ⟨by rfl, fun w' hw' => ?_⟩) hS ?_
  · go_simp
  simp only [Act.put, List.setIfInBounds_toArray, List.set_cons_zero, List.set_cons_succ]
  refine wpAnyH_done (by kernel_rfl) ?_ _
  clear hS
  go_wp2_with fail
  go_ret
  exact ⟨rfl, p, d, q, r, _, _, (H3.out.fewer (fun x hx => List.mem_cons_of_mem _ hx)).later (by omega) (by omega), HN.out.1.fl D, by rw [fl_size]; exact HN.out.2.1⟩
end Go.Proofs.YtjbdchgadfhffaaGreatDoor

/- Acts of a pair of pools: Cut, Spoil. -/
namespace Go.Proofs.YtjbdchgadfhffaaGreatDoor
open Go.RowKit
set_option maxRecDepth 100000 in
set_option maxHeartbeats 4000000 in
theorem does11_cut {w0 w : World} {pp p d q r n : Nat} {s : F.Po} {D : dSt} (h : PwE w0 w [(pp, PB11 d r (Ptr p) (Ptr q))] p d q r s s D D n (11 * n)) (hpp : w0.heap.size ≤ pp) (hnl : F.Nil s) (hs8 : D.size ≤ 8) (hn : n ≤ 30) (no off z : Int) (fa : Option Addr) (fn fc : Nat) (c : UInt8) (ka : Option Addr) (kn kc : Nat) (torn at_ : Int) (hz64 : z ≤ 9223372036854775807) :
    Calls Tryz.prog 8 #[Ptr pp, .agg (act11 5 no off z fa fn fc c ka kn kc torn at_)] w (PDo11 w0 pp (n + 1)) := by
  obtain ⟨ab, hab⟩ : ∃ ab, ab = w.heap.size := ⟨_, rfl⟩
  obtain ⟨wd, hwd⟩ : ∃ wd, wd = w.alloc (AB11 5 no off z fa fn fc c ka kn kc torn at_) := ⟨_, rfl⟩
  have HP := hid (show PwE w0 wd [(ab, AB11 5 no off z fa fn fc c ka kn kc torn at_), (pp, PB11 d r (Ptr p) (Ptr q))] p d q r s s D D n (11 * n) by rw [hwd, hab]; exact h.more ((Touch.refl _ w).alloc _) w.heap.size _ (heap_alloc_new w _) (Nat.le_refl _))
  have HPP := hid hpp
  have HN := hid (And.intro hnl (And.intro hs8 hn))
  have HG := hid h.facts
  have HPx := hid (HP.out.other (pp, PB11 d r (Ptr p) (Ptr q)) (List.mem_cons_of_mem _ List.mem_cons_self))
  have HAx := hid (HP.out.other (ab, AB11 5 no off z fa fn fc c ka kn kc torn at_) List.mem_cons_self)
  have hl9 : s.L.length ≤ 10000 := by have := HG.out.1.len; have := HG.out.2.1.mo2; omega
  have e0 : (w.alloc (AB11 5 no off z fa fn fc c ka kn kc torn at_)).cell? ⟨w.heap.size, 0, none⟩ = some (.int .i64 5) := cellOf (heap_alloc_new w _) 0
  have HZ8 := hid (cutD_ok HG.out.2.2.1 z hz64).2
  obtain ⟨zz, hzz⟩ : ∃ zz : Int, zz = cutE z := ⟨_, rfl⟩
  have HC1 := hid (show Calls Tryz.prog 29 #[Ptr d, .int .i64 z] wd.drew (PPw w0 [(ab, AB11 5 no off z fa fn fc c ka kn kc torn at_), (pp, PB11 d r (Ptr p) (Ptr q))] p d q r s s (cutD D z) D n (11 * n) (.int .i64 zz)) by rw [hzz]; exact pw_cut (HP.out.adds (Touch.refl _ wd).drew) z hz64)
  have HC2 := hid (fun (w2 : World) (h2 : PwE w0 w2 [(ab, AB11 5 no off z fa fn fc c ka kn kc torn at_), (pp, PB11 d r (Ptr p) (Ptr q))] p d q r s s (cutD D z) D n (11 * n)) => show Calls Tryz.prog 30 #[Ptr r, .int .i64 z] w2 (PPw w0 [(ab, AB11 5 no off z fa fn fc c ka kn kc torn at_), (pp, PB11 d r (Ptr p) (Ptr q))] p d q r s s (cutD D z) (cutD D z) n (11 * n) (.int .i64 zz)) by rw [hzz]; exact pq_cut h2 z)
  clear hzz
  clear h hpp hnl hs8 hn hl9 hz64
  go_enter Tryz.func8, Tryz.ntmps8
  go_upto_region 29 with fail
  rw [← hab, ← hwd]
  clear hab hwd e0
  refine H_begin (S := fun w' : World => w'.heap[pp]? = some (PB11 d r (Ptr p) (Ptr q)) ∧ w'.heap[ab]? = some (AB11 5 no off z fa fn fc c ka kn kc torn at_)) (by kernel_rfl) ?_
  have hS : (fun w' : World => w'.heap[pp]? = some (PB11 d r (Ptr p) (Ptr q)) ∧ w'.heap[ab]? = some (AB11 5 no off z fa fn fc c ka kn kc torn at_)) wd.drew := ⟨HPx.out, HAx.out⟩
  refine H_put (i := 0) 138 (v := Ptr pp) rfl rfl (by kernel_rfl) (by kernel_rfl) (by kernel_rfl) (fun _ _ _ h => h) (Or.inl ⟨by rfl, fun w' hw' => ?_⟩) hS ?_
  · go_simp
  simp only [Act.put, List.setIfInBounds_toArray, List.set_cons_zero, List.set_cons_succ]
  refine H_put (i := 1) 139 (v := Ptr pp) rfl rfl (by kernel_rfl) (by kernel_rfl) (by kernel_rfl) (fun _ _ _ h => h) (Or.inl ⟨by rfl, fun w' hw' => ?_⟩) hS ?_
  · go_simp
  simp only [Act.put, List.setIfInBounds_toArray, List.set_cons_zero, List.set_cons_succ]
  refine H_put (i := 2) 140 (v := .pointer (some ⟨pp, 0, none⟩)) rfl rfl (by kernel_rfl) (by kernel_rfl) (by kernel_rfl) (fun _ _ _ h => h) (Or.inl ⟨by rfl, fun w' hw' => ?_⟩) hS ?_
  · go_simp
  simp only [Act.put, List.setIfInBounds_toArray, List.set_cons_zero, List.set_cons_succ]
  refine H_put (i := 3) 141 (v := Ptr d) rfl rfl (by kernel_rfl) (by kernel_rfl) (by kernel_rfl) (fun _ _ _ h => h) (Or.inl ⟨by rfl, fun w' hw' => ?_⟩) hS ?_
  · have c : w'.cell? ⟨pp, 0, none⟩ = some (Ptr d) := cellOf hw'.1 0; go_simp
  simp only [Act.put, List.setIfInBounds_toArray, List.set_cons_zero, List.set_cons_succ]
  refine H_put (i := 4) 142 (v := .pointer (some ⟨ab, 3, none⟩)) rfl rfl (by kernel_rfl) (by kernel_rfl) (by kernel_rfl) (fun _ _ _ h => h) (Or.inl ⟨by rfl, fun w' hw' => ?_⟩) hS ?_
  · go_simp
  simp only [Act.put, List.setIfInBounds_toArray, List.set_cons_zero, List.set_cons_succ]
  refine H_put (i := 5) 143 (v := .int .i64 z) rfl rfl (by kernel_rfl) (by kernel_rfl) (by kernel_rfl) (fun _ _ _ h => h) (Or.inl ⟨by rfl, fun w' hw' => ?_⟩) hS ?_
  · have c : w'.cell? ⟨ab, 3, none⟩ = some (.int .i64 z) := cellOf hw'.2 3; go_simp
  simp only [Act.put, List.setIfInBounds_toArray, List.set_cons_zero, List.set_cons_succ]
  refine H_put (i := 7) 145 (v := Ptr pp) rfl rfl (by kernel_rfl) (by kernel_rfl) (by kernel_rfl) (fun _ _ _ h => h) (Or.inl ⟨by rfl, fun w' hw' => ?_⟩) hS ?_
  · go_simp
  simp only [Act.put, List.setIfInBounds_toArray, List.set_cons_zero, List.set_cons_succ]
  refine H_put (i := 8) 146 (v := Ptr pp) rfl rfl (by kernel_rfl) (by kernel_rfl) (by kernel_rfl) (fun _ _ _ h => h) (Or.inl ⟨by rfl, fun w' hw' => ?_⟩) hS ?_
  · go_simp
  simp only [Act.put, List.setIfInBounds_toArray, List.set_cons_zero, List.set_cons_succ]
  refine H_put (i := 9) 147 (v := .pointer (some ⟨pp, 1, none⟩)) rfl rfl (by kernel_rfl) (by kernel_rfl) (by kernel_rfl) (fun _ _ _ h => h) (Or.inl ⟨by rfl, fun w' hw' => ?_⟩) hS ?_
  · go_simp
  simp only [Act.put, List.setIfInBounds_toArray, List.set_cons_zero, List.set_cons_succ]
  refine H_put (i := 10) 148 (v := Ptr r) rfl rfl (by kernel_rfl) (by kernel_rfl) (by kernel_rfl) (fun _ _ _ h => h) (Or.inl ⟨by rfl, fun w' hw' => ?_⟩) hS ?_
  · have c : w'.cell? ⟨pp, 1, none⟩ = some (Ptr r) := cellOf hw'.1 1; go_simp
  simp only [Act.put, List.setIfInBounds_toArray, List.set_cons_zero, List.set_cons_succ]
  refine H_put (i := 11) 149 (v := .pointer (some ⟨ab, 3, none⟩)) rfl rfl (by kernel_rfl) (by kernel_rfl) (by kernel_rfl) (fun _ _ _ h => h) (Or.inl ⟨by rfl, fun w' hw' => ?_⟩) hS ?_
  · go_simp
  simp only [Act.put, List.setIfInBounds_toArray, List.set_cons_zero, List.set_cons_succ]
  refine H_put (i := 12) 150 (v := .int .i64 z) rfl rfl (by kernel_rfl) (by kernel_rfl) (by kernel_rfl) (fun _ _ _ h => h) (Or.inl ⟨by rfl, fun w' hw' => ?_⟩) hS ?_
  · have c : w'.cell? ⟨ab, 3, none⟩ = some (.int .i64 z) := cellOf hw'.2 3; go_simp
  simp only [Act.put, List.setIfInBounds_toArray, List.set_cons_zero, List.set_cons_succ]
  refine H_call (i := 6) 144 29 #[Ptr d, .int .i64 z] (by kernel_rfl) rfl rfl (by rfl) (by go_simp) (HC1.out) ?_
  rintro e w2 ⟨rfl, H2⟩
  have hS2 : (fun w' : World => w'.heap[pp]? = some (PB11 d r (Ptr p) (Ptr q)) ∧ w'.heap[ab]? = some (AB11 5 no off z fa fn fc c ka kn kc torn at_)) _ := ⟨H2.out.other (pp, PB11 d r (Ptr p) (Ptr q)) (List.mem_cons_of_mem _ List.mem_cons_self), H2.out.other (ab, AB11 5 no off z fa fn fc c ka kn kc torn at_) List.mem_cons_self⟩
  refine ⟨_, _, rfl, hS2, fun w' h => h, ?_⟩
  clear hS; have hS := hS2; clear hS2
  simp only [Act.put, List.setIfInBounds_toArray, List.set_cons_zero, List.set_cons_succ]
  refine H_call (i := 13) 151 30 #[Ptr r, .int .i64 z] (by kernel_rfl) rfl rfl (by rfl) (by go_simp) (HC2.out w2 H2.out) ?_
  rintro e w3 ⟨rfl, H3⟩
  have hS2 : (fun w' : World => w'.heap[pp]? = some (PB11 d r (Ptr p) (Ptr q)) ∧ w'.heap[ab]? = some (AB11 5 no off z fa fn fc c ka kn kc torn at_)) _ := ⟨H3.out.other (pp, PB11 d r (Ptr p) (Ptr q)) (List.mem_cons_of_mem _ List.mem_cons_self), H3.out.other (ab, AB11 5 no off z fa fn fc c ka kn kc torn at_) List.mem_cons_self⟩
  refine ⟨_, _, rfl, hS2, fun w' h => h, ?_⟩
  clear hS; have hS := hS2; clear hS2
  simp only [Act.put, List.setIfInBounds_toArray, List.set_cons_zero, List.set_cons_succ]
  refine H_put (i := 14) 152 (v := .bool true) rfl rfl (by kernel_rfl) (by kernel_rfl) (by kernel_rfl) (fun _ _ _ h => h) (Or.inl ⟨by rfl, fun w' hw' => ?_⟩) hS ?_
  · go_simp
  simp only [Act.put, List.setIfInBounds_toArray, List.set_cons_zero, List.set_cons_succ]
  refine H_put (i := 15) 4 (v := .bool true) rfl rfl (by kernel_rfl) (by kernel_rfl) (by kernel_rfl) (fun _ _ _ h => h) (Or.inl ⟨by rfl, fun w' hw' => ?_⟩) hS ?_
  · go_simp
  simp only [Act.put, List.setIfInBounds_toArray, List.set_cons_zero, List.set_cons_succ]
  refine wpAnyH_done (by kernel_rfl) ?_ _
  clear hS
  go_wp2_with fail
  go_ret
  exact ⟨rfl, p, d, q, r, _, _, (H3.out.fewer (fun x hx => List.mem_cons_of_mem _ hx)).later (by omega) (by omega), HN.out.1, by rw [HZ8.out]; exact HN.out.2.1⟩
set_option maxRecDepth 100000 in
set_option maxHeartbeats 4000000 in
theorem does11_spoil {w0 w : World} {pp p d q r n : Nat} {s : F.Po} {D : dSt} (h : PwE w0 w [(pp, PB11 d r (Ptr p) (Ptr q))] p d q r s s D D n (11 * n)) (hpp : w0.heap.size ≤ pp) (hnl : F.Nil s) (hs8 : D.size ≤ 8) (hn : n ≤ 30) (no off z : Int) (fa : Option Addr) (fn fc : Nat) (c : UInt8) (ka : Option Addr) (kn kc : Nat) (torn at_ : Int) :
    Calls Tryz.prog 8 #[Ptr pp, .agg (act11 7 no off z fa fn fc c ka kn kc torn at_)] w (PDo11 w0 pp (n + 1)) := by
  obtain ⟨ab, hab⟩ : ∃ ab, ab = w.heap.size := ⟨_, rfl⟩
  obtain ⟨wd, hwd⟩ : ∃ wd, wd = w.alloc (AB11 7 no off z fa fn fc c ka kn kc torn at_) := ⟨_, rfl⟩
  have HP := hid (show PwE w0 wd [(ab, AB11 7 no off z fa fn fc c ka kn kc torn at_), (pp, PB11 d r (Ptr p) (Ptr q))] p d q r s s D D n (11 * n) by rw [hwd, hab]; exact h.more ((Touch.refl _ w).alloc _) w.heap.size _ (heap_alloc_new w _) (Nat.le_refl _))
  have HPP := hid hpp
  have HN := hid (And.intro hnl (And.intro hs8 hn))
  have HG := hid h.facts
  have HPx := hid (HP.out.other (pp, PB11 d r (Ptr p) (Ptr q)) (List.mem_cons_of_mem _ List.mem_cons_self))
  have HAx := hid (HP.out.other (ab, AB11 7 no off z fa fn fc c ka kn kc torn at_) List.mem_cons_self)
  have hl9 : s.L.length ≤ 10000 := by have := HG.out.1.len; have := HG.out.2.1.mo2; omega
  have e0 : (w.alloc (AB11 7 no off z fa fn fc c ka kn kc torn at_)).cell? ⟨w.heap.size, 0, none⟩ = some (.int .i64 7) := cellOf (heap_alloc_new w _) 0
  obtain ⟨zz, hzz⟩ : ∃ zz : Int, zz = spoilE D no z := ⟨_, rfl⟩
  have HC1 := hid (show Calls Tryz.prog 33 #[Ptr d, .int .i64 no, .int .i64 z, .int .u8 (c.toNat : Int)] wd.drew (PPw w0 [(ab, AB11 7 no off z fa fn fc c ka kn kc torn at_), (pp, PB11 d r (Ptr p) (Ptr q))] p d q r s s (spoilD D no z c) D n (11 * n) (.int .i64 zz)) by rw [hzz]; exact pw_spoil (HP.out.adds (Touch.refl _ wd).drew) (by omega) no z c)
  have HC2 := hid (fun (w2 : World) (h2 : PwE w0 w2 [(ab, AB11 7 no off z fa fn fc c ka kn kc torn at_), (pp, PB11 d r (Ptr p) (Ptr q))] p d q r s s (spoilD D no z c) D n (11 * n)) => show Calls Tryz.prog 34 #[Ptr r, .int .i64 no, .int .i64 z, .int .u8 (c.toNat : Int)] w2 (PPw w0 [(ab, AB11 7 no off z fa fn fc c ka kn kc torn at_), (pp, PB11 d r (Ptr p) (Ptr q))] p d q r s s (spoilD D no z c) (spoilD D no z c) n (11 * n) (.int .i64 zz)) by rw [hzz]; exact pq_spoil h2 HG.out.2.2.1 (by omega) no z c)
  clear hzz
  clear h hpp hnl hs8 hn hl9
  go_enter Tryz.func8, Tryz.ntmps8
  go_upto_region 38 with fail
  rw [← hab, ← hwd]
  clear hab hwd e0
  refine H_begin (S := fun w' : World => w'.heap[pp]? = some (PB11 d r (Ptr p) (Ptr q)) ∧ w'.heap[ab]? = some (AB11 7 no off z fa fn fc c ka kn kc torn at_)) (by kernel_rfl) ?_
  have hS : (fun w' : World => w'.heap[pp]? = some (PB11 d r (Ptr p) (Ptr q)) ∧ w'.heap[ab]? = some (AB11 7 no off z fa fn fc c ka kn kc torn at_)) wd.drew := ⟨HPx.out, HAx.out⟩
  refine H_put (i := 0) 218 (v := Ptr pp) rfl rfl (by kernel_rfl) (by kernel_rfl) (by kernel_rfl) (fun _ _ _ h => h) (Or.inl ⟨by rfl, fun w' hw' => ?_⟩) hS ?_
  · go_simp
  simp only [Act.put, List.setIfInBounds_toArray, List.set_cons_zero, List.set_cons_succ]
  refine H_put (i := 1) 219 (v := Ptr pp) rfl rfl (by kernel_rfl) (by kernel_rfl) (by kernel_rfl) (fun _ _ _ h => h) (Or.inl ⟨by rfl, fun w' hw' => ?_⟩) hS ?_
  · go_simp
  simp only [Act.put, List.setIfInBounds_toArray, List.set_cons_zero, List.set_cons_succ]
  refine H_put (i := 2) 220 (v := .pointer (some ⟨pp, 0, none⟩)) rfl rfl (by kernel_rfl) (by kernel_rfl) (by kernel_rfl) (fun _ _ _ h => h) (Or.inl ⟨by rfl, fun w' hw' => ?_⟩) hS ?_
  · go_simp
  simp only [Act.put, List.setIfInBounds_toArray, List.set_cons_zero, List.set_cons_succ]
  refine H_put (i := 3) 221 (v := Ptr d) rfl rfl (by kernel_rfl) (by kernel_rfl) (by kernel_rfl) (fun _ _ _ h => h) (Or.inl ⟨by rfl, fun w' hw' => ?_⟩) hS ?_
  · have c : w'.cell? ⟨pp, 0, none⟩ = some (Ptr d) := cellOf hw'.1 0; go_simp
  simp only [Act.put, List.setIfInBounds_toArray, List.set_cons_zero, List.set_cons_succ]
  refine H_put (i := 4) 222 (v := .pointer (some ⟨ab, 1, none⟩)) rfl rfl (by kernel_rfl) (by kernel_rfl) (by kernel_rfl) (fun _ _ _ h => h) (Or.inl ⟨by rfl, fun w' hw' => ?_⟩) hS ?_
  · go_simp
  simp only [Act.put, List.setIfInBounds_toArray, List.set_cons_zero, List.set_cons_succ]
  refine H_put (i := 5) 223 (v := .int .i64 no) rfl rfl (by kernel_rfl) (by kernel_rfl) (by kernel_rfl) (fun _ _ _ h => h) (Or.inl ⟨by rfl, fun w' hw' => ?_⟩) hS ?_
  · have c : w'.cell? ⟨ab, 1, none⟩ = some (.int .i64 no) := cellOf hw'.2 1; go_simp
  simp only [Act.put, List.setIfInBounds_toArray, List.set_cons_zero, List.set_cons_succ]
  refine H_put (i := 6) 224 (v := .pointer (some ⟨ab, 3, none⟩)) rfl rfl (by kernel_rfl) (by kernel_rfl) (by kernel_rfl) (fun _ _ _ h => h) (Or.inl ⟨by rfl, fun w' hw' => ?_⟩) hS ?_
  · go_simp
  simp only [Act.put, List.setIfInBounds_toArray, List.set_cons_zero, List.set_cons_succ]
  refine H_put (i := 7) 225 (v := .int .i64 z) rfl rfl (by kernel_rfl) (by kernel_rfl) (by kernel_rfl) (fun _ _ _ h => h) (Or.inl ⟨by rfl, fun w' hw' => ?_⟩) hS ?_
  · have c : w'.cell? ⟨ab, 3, none⟩ = some (.int .i64 z) := cellOf hw'.2 3; go_simp
  simp only [Act.put, List.setIfInBounds_toArray, List.set_cons_zero, List.set_cons_succ]
  refine H_put (i := 8) 226 (v := .pointer (some ⟨ab, 5, none⟩)) rfl rfl (by kernel_rfl) (by kernel_rfl) (by kernel_rfl) (fun _ _ _ h => h) (Or.inl ⟨by rfl, fun w' hw' => ?_⟩) hS ?_
  · go_simp
  simp only [Act.put, List.setIfInBounds_toArray, List.set_cons_zero, List.set_cons_succ]
  refine H_put (i := 9) 227 (v := .int .u8 (c.toNat : Int)) rfl rfl (by kernel_rfl) (by kernel_rfl) (by kernel_rfl) (fun _ _ _ h => h) (Or.inl ⟨by rfl, fun w' hw' => ?_⟩) hS ?_
  · have c : w'.cell? ⟨ab, 5, none⟩ = some (.int .u8 (c.toNat : Int)) := cellOf hw'.2 5; go_simp
  simp only [Act.put, List.setIfInBounds_toArray, List.set_cons_zero, List.set_cons_succ]
  refine H_put (i := 11) 229 (v := Ptr pp) rfl rfl (by kernel_rfl) (by kernel_rfl) (by kernel_rfl) (fun _ _ _ h => h) (Or.inl ⟨by rfl, fun w' hw' => ?_⟩) hS ?_
  · go_simp
  simp only [Act.put, List.setIfInBounds_toArray, List.set_cons_zero, List.set_cons_succ]
  refine H_put (i := 12) 230 (v := Ptr pp) rfl rfl (by kernel_rfl) (by kernel_rfl) (by kernel_rfl) (fun _ _ _ h => h) (Or.inl ⟨by rfl, fun w' hw' => ?_⟩) hS ?_
  · go_simp
  simp only [Act.put, List.setIfInBounds_toArray, List.set_cons_zero, List.set_cons_succ]
  refine H_put (i := 13) 231 (v := .pointer (some ⟨pp, 1, none⟩)) rfl rfl (by kernel_rfl) (by kernel_rfl) (by kernel_rfl) (fun _ _ _ h => h) (Or.inl ⟨by rfl, fun w' hw' => ?_⟩) hS ?_
  · go_simp
  simp only [Act.put, List.setIfInBounds_toArray, List.set_cons_zero, List.set_cons_succ]
  refine H_put (i := 14) 232 (v := Ptr r) rfl rfl (by kernel_rfl) (by kernel_rfl) (by kernel_rfl) (fun _ _ _ h => h) (Or.inl ⟨by rfl, fun w' hw' => ?_⟩) hS ?_
  · have c : w'.cell? ⟨pp, 1, none⟩ = some (Ptr r) := cellOf hw'.1 1; go_simp
  simp only [Act.put, List.setIfInBounds_toArray, List.set_cons_zero, List.set_cons_succ]
  refine H_put (i := 15) 233 (v := .pointer (some ⟨ab, 1, none⟩)) rfl rfl (by kernel_rfl) (by kernel_rfl) (by kernel_rfl) (fun _ _ _ h => h) (Or.inl ⟨by rfl, fun w' hw' => ?_⟩) hS ?_
  · go_simp
  simp only [Act.put, List.setIfInBounds_toArray, List.set_cons_zero, List.set_cons_succ]
  refine H_put (i := 16) 234 (v := .int .i64 no) rfl rfl (by kernel_rfl) (by kernel_rfl) (by kernel_rfl) (fun _ _ _ h => h) (Or.inl ⟨by rfl, fun w' hw' => ?_⟩) hS ?_
  · have c : w'.cell? ⟨ab, 1, none⟩ = some (.int .i64 no) := cellOf hw'.2 1; go_simp
  simp only [Act.put, List.setIfInBounds_toArray, List.set_cons_zero, List.set_cons_succ]
  refine H_put (i := 17) 235 (v := .pointer (some ⟨ab, 3, none⟩)) rfl rfl (by kernel_rfl) (by kernel_rfl) (by kernel_rfl) (fun _ _ _ h => h) (Or.inl ⟨by rfl, fun w' hw' => ?_⟩) hS ?_
  · go_simp
  simp only [Act.put, List.setIfInBounds_toArray, List.set_cons_zero, List.set_cons_succ]
  refine H_put (i := 18) 236 (v := .int .i64 z) rfl rfl (by kernel_rfl) (by kernel_rfl) (by kernel_rfl) (fun _ _ _ h => h) (Or.inl ⟨by rfl, fun w' hw' => ?_⟩) hS ?_
  · have c : w'.cell? ⟨ab, 3, none⟩ = some (.int .i64 z) := cellOf hw'.2 3; go_simp
  simp only [Act.put, List.setIfInBounds_toArray, List.set_cons_zero, List.set_cons_succ]
  refine H_put (i := 19) 237 (v := .pointer (some ⟨ab, 5, none⟩)) rfl rfl (by kernel_rfl) (by kernel_rfl) (by kernel_rfl) (fun _ _ _ h => h) (Or.inl ⟨by rfl, fun w' hw' => ?_⟩) hS ?_
  · go_simp
  simp only [Act.put, List.setIfInBounds_toArray, List.set_cons_zero, List.set_cons_succ]
  refine H_put (i := 20) 238 (v := .int .u8 (c.toNat : Int)) rfl rfl (by kernel_rfl) (by kernel_rfl) (by kernel_rfl) (fun _ _ _ h => h) (Or.inl ⟨by rfl, fun w' hw' => ?_⟩) hS ?_
  · have c : w'.cell? ⟨ab, 5, none⟩ = some (.int .u8 (c.toNat : Int)) := cellOf hw'.2 5; go_simp
  simp only [Act.put, List.setIfInBounds_toArray, List.set_cons_zero, List.set_cons_succ]
  refine H_call (i := 10) 228 33 #[Ptr d, .int .i64 no, .int .i64 z, .int .u8 (c.toNat : Int)] (by kernel_rfl) rfl rfl (by rfl) (by go_simp) (HC1.out) ?_
  rintro e w2 ⟨rfl, H2⟩
  have hS2 : (fun w' : World => w'.heap[pp]? = some (PB11 d r (Ptr p) (Ptr q)) ∧ w'.heap[ab]? = some (AB11 7 no off z fa fn fc c ka kn kc torn at_)) _ := ⟨H2.out.other (pp, PB11 d r (Ptr p) (Ptr q)) (List.mem_cons_of_mem _ List.mem_cons_self), H2.out.other (ab, AB11 7 no off z fa fn fc c ka kn kc torn at_) List.mem_cons_self⟩
  refine ⟨_, _, rfl, hS2, fun w' h => h, ?_⟩
  clear hS; have hS := hS2; clear hS2
  simp only [Act.put, List.setIfInBounds_toArray, List.set_cons_zero, List.set_cons_succ]
  refine H_call (i := 21) 239 34 #[Ptr r, .int .i64 no, .int .i64 z, .int .u8 (c.toNat : Int)] (by kernel_rfl) rfl rfl (by rfl) (by go_simp) (HC2.out w2 H2.out) ?_
  rintro e w3 ⟨rfl, H3⟩
  have hS2 : (fun w' : World => w'.heap[pp]? = some (PB11 d r (Ptr p) (Ptr q)) ∧ w'.heap[ab]? = some (AB11 7 no off z fa fn fc c ka kn kc torn at_)) _ := ⟨H3.out.other (pp, PB11 d r (Ptr p) (Ptr q)) (List.mem_cons_of_mem _ List.mem_cons_self), H3.out.other (ab, AB11 7 no off z fa fn fc c ka kn kc torn at_) List.mem_cons_self⟩
  refine ⟨_, _, rfl, hS2, fun w' h => h, ?_⟩
  clear hS; have hS := hS2; clear hS2
  simp only [Act.put, List.setIfInBounds_toArray, List.set_cons_zero, List.set_cons_succ]
  refine H_put (i := 22) 240 (v := .bool true) rfl rfl (by kernel_rfl) (by kernel_rfl) (by kernel_rfl) (fun _ _ _ h => h) (Or.inl ⟨by rfl, fun w' hw' => ?_⟩) hS ?_
  · go_simp
  simp only [Act.put, List.setIfInBounds_toArray, List.set_cons_zero, List.set_cons_succ]
  refine H_put (i := 23) 4 (v := .bool true) rfl rfl (by kernel_rfl) (by kernel_rfl) (by kernel_rfl) (fun _ _ _ h => h) (Or.inl ⟨by rfl, fun w' hw' => ?_⟩) hS ?_
  · go_simp
  simp only [Act.put, List.setIfInBounds_toArray, List.set_cons_zero, List.set_cons_succ]
  refine wpAnyH_done (by kernel_rfl) ?_ _
  clear hS
  go_wp2_with fail
  go_ret
  exact ⟨rfl, p, d, q, r, _, _, (H3.out.fewer (fun x hx => List.mem_cons_of_mem _ hx)).later (by omega) (by omega), HN.out.1, by rw [(spoilD_ok HG.out.2.2.1 no z c).2]; exact HN.out.2.1⟩
end Go.Proofs.YtjbdchgadfhffaaGreatDoor
