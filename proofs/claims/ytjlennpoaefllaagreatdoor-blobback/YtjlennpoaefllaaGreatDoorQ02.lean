/- Texts put together: Mem, State, Leaf, Take, Uint, RUint, Fixed, Reads, Concat. -/
import Derived.Test.YtjlennpoaefllaaGreatDoorProg
import Derived.Test.YtjlennpoaefllaaGreatDoorQ01
import Derived.WalkKit
import Derived.WalkSpells
import Derived.WalkLawsBesides
import Derived.Below
import Derived.Deep.MidRow
import Derived.Laws.CopyOwn
import Derived.Laws.AppendOwnNone
import Derived.Laws.MakeOwn
import Derived.Lib.SliceRun
import Derived.Lib.AppendZeros
/- Worlds that turn in some blocks alone; bytes in memory; bytes put behind bytes. -/
namespace Go.Proofs.YtjlennpoaefllaaGreatDoor
open Go.RowKit

/-- A fact kept from the walk. -/
theorem hid {p : Prop} (h : p) : Hid p := h

/-! ### Worlds that turn in some blocks alone -/
/-- From w to w' only blocks of which T says so have turned (and new ones have come). -/
structure Touch (T : Nat → Prop) (w w' : World) : Prop where
  os : w'.os = w.os
  tape : w'.tape = w.tape
  output : w'.output = w.output
  size : w.heap.size ≤ w'.heap.size
  block : ∀ k, k < w.heap.size → ¬ T k → w'.heap[k]? = w.heap[k]?

theorem Touch.refl (T : Nat → Prop) (w : World) : Touch T w w := ⟨rfl, rfl, rfl, Nat.le_refl _, fun _ _ _ => rfl⟩
theorem Touch.trans {T : Nat → Prop} {a b c : World} (h : Touch T a b) (k : Touch T b c) : Touch T a c :=
  ⟨k.os.trans h.os, k.tape.trans h.tape, k.output.trans h.output, Nat.le_trans h.size k.size, fun i hi hn => (k.block i (Nat.lt_of_lt_of_le hi h.size) hn).trans (h.block i hi hn)⟩
/-- Behind a first step: what the second one turns was there for the first (and T says so), or is new. -/
theorem Touch.then {T U : Nat → Prop} {a b c : World} (h : Touch T a b) (k : Touch U b c) (hu : ∀ i, i < a.heap.size → U i → T i) : Touch T a c :=
  ⟨k.os.trans h.os, k.tape.trans h.tape, k.output.trans h.output, Nat.le_trans h.size k.size, fun i hi hn => (k.block i (Nat.lt_of_lt_of_le hi h.size) (fun c => hn (hu i hi c))).trans (h.block i hi hn)⟩
theorem Touch.mono {T U : Nat → Prop} {w w' : World} (h : Touch T w w') (hu : ∀ i, i < w.heap.size → T i → U i) : Touch U w w' :=
  ⟨h.os, h.tape, h.output, h.size, fun i hi hn => h.block i hi (fun c => hn (hu i hi c))⟩
theorem Touch.drew {T : Nat → Prop} {a w : World} (h : Touch T a w) : Touch T a w.drew := ⟨h.os, h.tape, h.output, h.size, h.block⟩
theorem Touch.alloc {T : Nat → Prop} {a w : World} (h : Touch T a w) (o : Obj) : Touch T a (w.alloc o) :=
  h.trans ⟨rfl, rfl, rfl, by simp, fun k hk _ => Below.heap_alloc _ _ _ hk⟩
theorem Touch.setCell {T : Nat → Prop} {a w : World} (h : Touch T a w) {p : Addr} (hp : p.block < a.heap.size → T p.block) (u : Value) : Touch T a (w.setCell p u) :=
  h.then (U := fun k => k = p.block) ⟨rfl, rfl, rfl, by simp [World.setCell], fun k _ hk => Below.heap_setCell _ _ _ _ hk⟩ (fun i hi e => by subst e; exact hp hi)
theorem Touch.setRow {T : Nat → Prop} {a w : World} (h : Touch T a w) {g : Nat} (hp : g < a.heap.size → T g) (cs : Array Value) : Touch T a (w.setRow g cs) :=
  h.then (U := fun k => k = g) ⟨rfl, rfl, rfl, by simp [World.setRow], fun k _ hk => setRow_other w g k cs hk⟩ (fun i hi e => by subst e; exact hp hi)
theorem Touch.grown {T : Nat → Prop} {a w w' : World} {row : Option Nat} (h : Touch T a w) (hg : w.grownBy w' row) (hr : ∀ k, row = some k → k < a.heap.size → T k) : Touch T a w' :=
  h.then (U := fun k => row = some k) ⟨hg.os, hg.tape, hg.output, hg.size, fun k hk hn => hg.block k hk (fun e => hn e.symm)⟩ (fun i hi e => hr i e hi)
theorem Touch.below {T : Nat → Prop} {w w' : World} (h : Touch T w w') {B : Nat} (hB : B ≤ w.heap.size) (hT : ∀ k, k < B → ¬ T k) : Below B w w' :=
  ⟨h.os, h.tape, h.output, h.size, fun k hk => h.block k (by omega) (hT k hk)⟩
/-- Nothing that was there has turned. -/
abbrev Adds (w w' : World) : Prop := Touch (fun _ => False) w w'
theorem Adds.below {w w' : World} (h : Adds w w') : Below w.heap.size w w' := Touch.below h (Nat.le_refl _) (fun _ _ => id)
theorem Touch.of_below {T : Nat → Prop} {w w' : World} (h : Below w.heap.size w w') : Touch T w w' := ⟨h.os, h.tape, h.output, h.size, fun k hk _ => h.block k hk⟩


/-- A byte as a cell. -/
def B8 (b : UInt8) : Value := .int .u8 (b.toNat : Int)
/-- Bytes as cells. -/
def S (bs : List UInt8) : List Value := bs.map B8
theorem length_S (bs : List UInt8) : (S bs).length = bs.length := by simp [S]
theorem one_S (bs : List UInt8) : ∀ v ∈ S bs, v.oneCell' = true := by
  intro v hv
  simp only [S, List.mem_map] at hv
  obtain ⟨b, _, rfl⟩ := hv
  rfl
theorem S_get (bs : List UInt8) (j : Nat) : (S bs)[j]? = bs[j]?.map B8 := by simp [S]

/-- Where a slice's bytes lie. -/
def At (w : World) (a : Option Addr) (bs : List UInt8) : Prop := ∀ (j : Nat) (c : UInt8), bs[j]? = some c → ∃ b o, a = some ⟨b, o, none⟩ ∧ w.cell? ⟨b, o + j, none⟩ = some (.int .u8 (c.toNat : Int))
theorem At.nil (w : World) (a : Option Addr) : At w a [] := by intro j c h; simp at h
theorem At.block {w w' : World} {a : Option Addr} {bs : List UInt8} (h : At w a bs) (hb : ∀ b o, a = some ⟨b, o, none⟩ → b < w.heap.size → w'.heap[b]? = w.heap[b]?) : At w' a bs := by
  intro j c hj
  obtain ⟨b, o, rfl, hc⟩ := h j c hj
  exact ⟨b, o, rfl, by rw [World.cell?_of_block (w := w) (hb b o rfl (World.block_lt_of_cell? w _ hc))]; exact hc⟩
theorem At.adds {w w' : World} {a : Option Addr} {bs : List UInt8} (h : At w a bs) (hA : Adds w w') : At w' a bs := h.block (fun b _ _ hb => hA.block b hb id)
theorem At.pre {w : World} {a : Option Addr} {bs : List UInt8} (h : At w a bs) (n : Nat) : At w a (bs.take n) := by
  intro j c hj
  rw [List.getElem?_take] at hj
  split at hj
  · exact h j c hj
  · cases hj
theorem At.suf {w : World} {b o : Nat} {bs : List UInt8} (h : At w (some ⟨b, o, none⟩) bs) (n : Nat) : At w (some ⟨b, o + n, none⟩) (bs.drop n) := by
  intro j c hj
  rw [List.getElem?_drop] at hj
  obtain ⟨b', o', e, hc⟩ := h _ c hj
  obtain ⟨rfl, rfl⟩ : b = b' ∧ o = o' := by simpa using e
  exact ⟨_, _, rfl, by rw [Nat.add_assoc]; exact hc⟩

theorem info5all : ∃ i, Tryz.prog.info? 5 = some i ∧ i.zero = some (.int .u8 0) ∧ i.size = 1 ∧ i.bytes = 1 := by
  have h : (Tryz.prog.info? 5).map (fun i => (i.zero, i.size, i.bytes)) = some (some (.int .u8 0), 1, 1) := by kernel_rfl
  cases hq : Tryz.prog.info? 5 with
  | none => rw [hq] at h; cases h
  | some i =>
    rw [hq] at h
    simp only [Option.map_some, Option.some.injEq, Prod.mk.injEq] at h
    exact ⟨i, rfl, h.1, h.2.1, h.2.2⟩

/-- A row of bytes of one's own. -/
abbrev Own (w : World) (base : Nat) (v : Value) (bs : List UInt8) : Prop := w.ownsRow base 5 1 v bs.length (S bs)

theorem At.own {w : World} {base g n cap : Nat} {bs : List UInt8} (h : w.ownsRow base 5 1 (.slice (some ⟨g, 0, none⟩) n cap) n (S bs)) : At w (some ⟨g, 0, none⟩) bs := by
  intro j c hj
  rcases h.2 with ⟨e, _⟩ | ⟨g', cap', cur, e, _, hg, _, _, _, ht⟩
  · cases e
  · obtain ⟨rfl, _⟩ : g = g' ∧ cap = cap' := by simpa using e
    refine ⟨g, 0, rfl, ?_⟩
    rw [cell_of_row w g (0 + j) cur 5 _ hg, Nat.zero_add, ← Array.getElem?_toList]
    have h2 : (S bs)[j]? = some (.int .u8 (c.toNat : Int)) := by rw [S_get, hj]; rfl
    rw [← ht, List.getElem?_take] at h2
    split at h2
    · exact h2
    · cases h2
/-- A row that has bytes lies somewhere. -/
theorem Own.some {w : World} {base n : Nat} {v : Value} {xs : List Value} (h : w.ownsRow base 5 1 v n xs) (hn : 0 < n) : ∃ g cap, v = .slice (some ⟨g, 0, none⟩) n cap ∧ base ≤ g ∧ n ≤ cap := by
  rcases h.2 with ⟨_, e⟩ | ⟨g, cap, cur, rfl, hb, _, hc, _⟩
  · omega
  · exact ⟨g, cap, rfl, hb, hc⟩

/-- Bytes, wherever they lie, put behind bytes of one's own. -/
theorem append_bytes {w : World} {ops : Array Oper} {rest : List Oper} {o : Oper} {act : Act} {Q : Exit → Act → World → Prop} (hgd : o.guard = none) (s x : Operand)
    (ho : o.op = .call { callee := .builtin .append, args := #[s, x], argTypes := #[43, 43] }) (base : Nat) (v : Value) (n : Nat) (xs : List Value) (hs : act.eval s = v) (hown : w.ownsRow base 5 1 v n xs)
    (a : Option Addr) (bs : List UInt8) (cap : Nat) (hx : act.eval x = .slice a bs.length cap) (hcap : a = none → cap = 0) (hA : At w a bs) (hlen : n + bs.length ≤ 140737488355328) (hbase : base ≤ w.heap.size)
    (h : ∀ v' w', w'.ownsRow base 5 1 v' (n + bs.length) (xs ++ S bs) → w.grownBy w' v.ownBlock → (v = .slice none 0 0 ∨ v' ≠ .slice none 0 0) → wpList Tryz.prog ops Q rest (act.put o.dst v') w') : wpList Tryz.prog ops Q (o :: rest) act w := by
  obtain ⟨i0, hi, hz0, hz1, hz2⟩ := info5all
  cases a with
  | none =>
    obtain rfl := hcap rfl
    obtain rfl : bs = [] := by
      cases bs with
      | nil => rfl
      | cons c bs => obtain ⟨b, o', e, _⟩ := hA 0 c rfl; cases e
    refine wpList_append_own_none hgd s x 43 ho base 5 i0 1 Tryz.underlying43 hi v n xs hs hown hx (h v w (by simpa [S] using hown) ⟨rfl, rfl, rfl, Nat.le_refl _, fun _ _ _ => rfl⟩ ?_)
    by_cases hv : v = .slice none 0 0
    · exact .inl hv
    · exact .inr hv
  | some ad =>
    refine wpList_append_own _ hgd s x 43 ho base 5 i0 (.int .u8 0) 1 1 Tryz.underlying43 hi hz0 hz1 hz2 rfl (by decide) v n xs hs hown ad bs.length cap (S bs) hx (by rw [length_S, Nat.mul_one]) ?_ (one_S bs) (by unfold maxLen; omega) (by omega) hbase (fun v' w' h1 h2 h3 => h v' w' h1 h2 ?_)
    · intro j u hu
      rw [S_get] at hu
      cases hj : bs[j]? with
      | none => rw [hj] at hu; cases hu
      | some c =>
        rw [hj] at hu
        obtain ⟨b, o', e, hc⟩ := hA j c hj
        obtain rfl : ad = ⟨b, o', none⟩ := by simpa using e
        rw [Addr.add_mid, hc]
        exact hu
    · by_cases hv : v = .slice none 0 0
      · exact .inl hv
      · exact .inr (fun e => hv (h3.1 e).1)

theorem own_none (v : Value) : v.ownBlock = none ∨ v.ownBlock ≠ none := by cases v.ownBlock <;> simp
/-- Bytes as a string. -/
def Str (bs : List UInt8) : Value := .string ⟨bs.toArray⟩
theorem conv_at (w : World) (a : Option Addr) (bs : List UInt8) (cap : Nat) (h : At w a bs) : (convert 43 9 (.slice a bs.length cap)).run Tryz.prog w = .ok (.string ⟨bs.toArray⟩) w := by
  cases a with
  | none =>
    obtain rfl : bs = [] := by
      cases bs with
      | nil => rfl
      | cons c bs => obtain ⟨b, o', e, _⟩ := h 0 c rfl; cases e
    rw [run_convert_bytes_nil w 43 5 Tryz.underlying43 Tryz.underlying5 _ _ 9 Tryz.underlying9]; rfl
  | some ad =>
    refine run_convert_bytes_back w 43 9 5 ad cap bs Tryz.underlying43 Tryz.underlying5 Tryz.underlying9 (fun j hj => ?_)
    obtain ⟨b, o, e, hc⟩ := h j bs[j] (List.getElem?_eq_getElem hj)
    obtain rfl : ad = ⟨b, o, none⟩ := by simpa using e
    rw [Addr.add_mid]; exact hc

theorem At.ad {w : World} {a : Option Addr} {bs : List UInt8} (h : At w a bs) (hn : 0 < bs.length) : ∃ b o, a = some ⟨b, o, none⟩ := by
  obtain ⟨b, o, e, _⟩ := h 0 bs[0] (List.getElem?_eq_getElem hn)
  exact ⟨b, o, e⟩
end Go.Proofs.YtjlennpoaefllaaGreatDoor

/- What a reader's calls tell of what is left, by definition; where a reader stands in memory. -/
namespace Go.Proofs.YtjlennpoaefllaaGreatDoor
open Go.RowKit

namespace M
/-- A reader: the first refusal (0: none), and what is left. -/
structure St where
  e : Nat
  l : List UInt8
def takeR (n : Nat) (s : St) : List UInt8 × St :=
  if s.e ≠ 0 then ([], s) else if s.l.length < n then ([], ⟨21, []⟩) else (s.l.take n, ⟨0, s.l.drop n⟩)
def clamp (z : Int) : Nat := if z < 0 then 0 else if 8 < z then 8 else z.toNat
def fixedR (size : Int) (s : St) : Nat × St := (unfix (takeR (clamp size) s).1, (takeR (clamp size) s).2)
theorem takeR_ref {n : Nat} {s : St} (h : s.e ≠ 0) : takeR n s = ([], s) := by rw [takeR, if_pos h]
theorem takeR_short {n : Nat} {s : St} (h : s.e = 0) (hl : s.l.length < n) : takeR n s = ([], ⟨21, []⟩) := by rw [takeR, if_neg (by omega), if_pos hl]
theorem takeR_ok {n : Nat} {s : St} (h : s.e = 0) (hl : ¬ s.l.length < n) : takeR n s = (s.l.take n, ⟨0, s.l.drop n⟩) := by rw [takeR, if_neg (by omega), if_neg hl]
theorem clamp_le (z : Int) : clamp z ≤ 8 := by unfold clamp; split <;> (try split) <;> omega
theorem takeR_len (n : Nat) (s : St) : (takeR n s).1.length ≤ n := by
  rw [takeR]
  split
  · simp
  · split
    · simp
    · simp; omega
end M

/-- The cell of a struct that is known whole. -/
theorem cellOf {w : World} {p : Nat} {cs : Array Value} {t : TypeId} {fr : Nat × Nat} (h : w.heap[p]? = some (.cells cs t fr)) (j : Nat) : w.cell? ⟨p, j, none⟩ = cs[j]? := cell_of_row w p j cs t fr h

/-- Bytes that lie in a block below p. -/
structure Lies (w : World) (p : Nat) (a : Option Addr) (l : List UInt8) (cap : Nat) : Prop where
  at_ : At w a l
  room : l.length ≤ cap
  non : a = none → cap = 0
  low : ∀ ad, a = some ad → ad.spot = none ∧ ad.block < p
theorem Lies.nil (w : World) (p : Nat) : Lies w p none [] 0 := ⟨At.nil _ _, Nat.le_refl _, fun _ => rfl, fun _ h => by cases h⟩
theorem Lies.touch {w w' : World} {p q : Nat} {a : Option Addr} {l : List UInt8} {cap : Nat} (h : Lies w p a l cap) (hT : Touch (fun k => k = q) w w') (hq : p ≤ q) : Lies w' p a l cap :=
  ⟨h.at_.block (fun b o e hb => hT.block b hb (fun c => by have h2 : b < p := (h.low _ e).2; omega)), h.room, h.non, h.low⟩
theorem Lies.adds {w w' : World} {p : Nat} {a : Option Addr} {l : List UInt8} {cap : Nat} (h : Lies w p a l cap) (hT : Adds w w') : Lies w' p a l cap :=
  ⟨h.at_.adds hT, h.room, h.non, h.low⟩
/-- What is left behind n bytes. -/
theorem Lies.drop {w : World} {p : Nat} {a : Option Addr} {l : List UInt8} {cap : Nat} (h : Lies w p a l cap) (n : Nat) (hn : n ≤ l.length) :
    Lies w p (if cap = n then a else a.map (·.add n)) (l.drop n) (cap - n) := by
  refine ⟨?_, by rw [List.length_drop]; have := h.room; omega, ?_, ?_⟩
  · by_cases hc : cap = n
    · rw [if_pos hc]
      have : l.drop n = [] := List.drop_eq_nil_of_le (by have := h.room; omega)
      rw [this]; exact At.nil _ _
    · rw [if_neg hc]
      cases a with
      | none => exact absurd (h.non rfl) (by have := h.room; omega)
      | some ad =>
        obtain ⟨b, o, sp⟩ := ad
        obtain rfl : sp = none := (h.low _ rfl).1
        show At w (some (Addr.add ⟨b, o, none⟩ n)) _
        rw [Addr.add_mid]
        exact h.at_.suf n
  · intro e
    by_cases hc : cap = n
    · omega
    · rw [if_neg hc] at e
      cases a with
      | none => have := h.non rfl; omega
      | some ad => cases e
  · intro ad e
    by_cases hc : cap = n
    · rw [if_pos hc] at e; exact h.low ad e
    · rw [if_neg hc] at e
      cases a with
      | none => cases e
      | some ad' =>
        obtain ⟨b, o, sp⟩ := ad'
        obtain rfl : sp = none := (h.low _ rfl).1
        have e2 : Addr.add ⟨b, o, none⟩ n = ad := by simpa using e
        rw [Addr.add_mid] at e2
        subst e2
        exact ⟨rfl, (h.low _ rfl).2⟩

/-- A reader that Read made, in block p. -/
structure IsR (w : World) (p : Nat) (s : M.St) : Prop where
  box : ∃ a cap, w.heap[p]? = some (.cells #[.bool true, .int .i64 (s.e : Int), .slice a s.l.length cap] 180 (0, 0)) ∧ Lies w p a s.l cap
  good : s.e ≠ 0 → s.l = []
  len : s.l.length ≤ 1000000
  err : s.e ≤ 100
/-- A reader, whatever it is. -/
def RD (w : World) (v : Value) (s : M.St) : Prop :=
  (v = .pointer none ∧ s = ⟨1, []⟩) ∨ (∃ p, v = .pointer (some ⟨p, 0, none⟩) ∧ w.heap[p]? = some (.cells #[.bool false, .int .i64 0, .slice none 0 0] 180 (0, 0)) ∧ s = ⟨1, []⟩) ∨ (∃ p, v = .pointer (some ⟨p, 0, none⟩) ∧ IsR w p s)
/-- The reference's reader, in block p. -/
structure IsS (w : World) (p : Nat) (s : M.St) : Prop where
  box : ∃ a cap, w.heap[p]? = some (.cells #[.slice a s.l.length cap, .int .i64 (s.e : Int)] 156 (0, 0)) ∧ Lies w p a s.l cap
  good : s.e ≠ 0 → s.l = []
  len : s.l.length ≤ 1000000
  err : s.e ≤ 100
theorem RD.made {w : World} {v : Value} {s : M.St} (h : RD w v s) (h0 : s.e = 0) : ∃ p, v = .pointer (some ⟨p, 0, none⟩) ∧ IsR w p s := by
  rcases h with ⟨_, rfl⟩ | ⟨p, _, _, rfl⟩ | h
  · cases h0
  · cases h0
  · exact h
theorem RD.good {w : World} {v : Value} {s : M.St} (h : RD w v s) (h0 : s.e ≠ 0) : s.l = [] := by
  rcases h with ⟨_, rfl⟩ | ⟨p, _, _, rfl⟩ | ⟨p, _, h⟩
  · rfl
  · rfl
  · exact h.good h0
/-- What turns when a reader is called: its own block. -/
def Own1 (v : Value) (k : Nat) : Prop := v = .pointer (some ⟨k, 0, none⟩)
theorem IsR.set {w w' : World} {p : Nat} {s : M.St} {e : Nat} {l : List UInt8} {a : Option Addr} {cap : Nat} (h : IsR w p s) (hw : w' = w.setRow p #[.bool true, .int .i64 (e : Int), .slice a l.length cap]) (hL : Lies w p a l cap) (hg : e ≠ 0 → l = []) (hl : l.length ≤ 1000000) (he : e ≤ 100) :
    IsR w' p ⟨e, l⟩ ∧ Touch (Own1 (.pointer (some ⟨p, 0, none⟩))) w w' := by
  subst hw
  obtain ⟨a0, c0, hb, _⟩ := h.box
  have hT : Touch (fun k => k = p) w (w.setRow p #[.bool true, .int .i64 (e : Int), .slice a l.length cap]) := Touch.setRow (T := fun k => k = p) (Touch.refl _ w) (fun _ => rfl) _
  exact ⟨⟨⟨a, cap, setRow_heap w p _ _ 180 _ hb, hL.touch hT (Nat.le_refl _)⟩, hg, hl, he⟩, hT.mono (fun i _ e => by subst e; rfl)⟩
theorem IsS.set {w w' : World} {p : Nat} {s : M.St} {e : Nat} {l : List UInt8} {a : Option Addr} {cap : Nat} (h : IsS w p s) (hw : w' = w.setRow p #[.slice a l.length cap, .int .i64 (e : Int)]) (hL : Lies w p a l cap) (hg : e ≠ 0 → l = []) (hl : l.length ≤ 1000000) (he : e ≤ 100) :
    IsS w' p ⟨e, l⟩ ∧ Touch (Own1 (.pointer (some ⟨p, 0, none⟩))) w w' := by
  subst hw
  obtain ⟨a0, c0, hb, _⟩ := h.box
  have hT : Touch (fun k => k = p) w (w.setRow p #[.slice a l.length cap, .int .i64 (e : Int)]) := Touch.setRow (T := fun k => k = p) (Touch.refl _ w) (fun _ => rfl) _
  exact ⟨⟨⟨a, cap, setRow_heap w p _ _ 156 _ hb, hL.touch hT (Nat.le_refl _)⟩, hg, hl, he⟩, hT.mono (fun i _ e => by subst e; rfl)⟩
end Go.Proofs.YtjlennpoaefllaaGreatDoor

/- The leaves: a float's bits, a size within bounds, what a reader tells of itself, a refusal. -/
namespace Go.Proofs.YtjlennpoaefllaaGreatDoor
open Go.RowKit

set_option maxRecDepth 100000 in
set_option maxHeartbeats 400000 in
theorem within_any (z : Int) (w : World) : Calls Tryz.prog 135 #[.int .i64 z] w fun e w' => e = .returned (.int .i64 (M.clamp z : Int)) ∧ w' = w := by
  by_cases h : z < 0
  · rw [M.clamp, if_pos h]
    go_enter Tryz.func135, Tryz.ntmps135
    go_wp2
    all_goals (first | omega | (go_ret; exact ⟨rfl, rfl⟩))
  · by_cases h2 : 8 < z
    · rw [M.clamp, if_neg h, if_pos h2]
      go_enter Tryz.func135, Tryz.ntmps135
      go_wp2
      all_goals (first | omega | (go_ret; exact ⟨rfl, rfl⟩))
    · rw [M.clamp, if_neg h, if_neg h2, Int.toNat_of_nonneg (by omega)]
      go_enter Tryz.func135, Tryz.ntmps135
      go_wp2
      all_goals (first | omega | (go_ret; exact ⟨rfl, rfl⟩))
set_option maxRecDepth 100000 in
set_option maxHeartbeats 400000 in
theorem err_nil (w : World) : Calls Tryz.prog 112 #[.pointer none] w fun e w' => e = .returned (.int .i64 1) ∧ w' = w := by
  go_enter Tryz.func112, Tryz.ntmps112
  go_wp2
  go_ret
  exact ⟨rfl, rfl⟩
set_option maxRecDepth 100000 in
set_option maxHeartbeats 400000 in
theorem err_no (p : Nat) (w : World) (c0 : w.cell? ⟨p, 0, none⟩ = some (.bool false)) : Calls Tryz.prog 112 #[.pointer (some ⟨p, 0, none⟩)] w fun e w' => e = .returned (.int .i64 1) ∧ w' = w := by
  go_enter Tryz.func112, Tryz.ntmps112
  go_wp2
  go_ret
  exact ⟨rfl, rfl⟩
set_option maxRecDepth 100000 in
set_option maxHeartbeats 400000 in
theorem err_yes (p : Nat) (n : Int) (w : World) (c0 : w.cell? ⟨p, 0, none⟩ = some (.bool true)) (c1 : w.cell? ⟨p, 1, none⟩ = some (.int .i64 n)) : Calls Tryz.prog 112 #[.pointer (some ⟨p, 0, none⟩)] w fun e w' => e = .returned (.int .i64 n) ∧ w' = w := by
  go_enter Tryz.func112, Tryz.ntmps112
  go_wp2
  go_ret
  exact ⟨rfl, rfl⟩
set_option maxRecDepth 100000 in
theorem err_any {v : Value} {s : M.St} {w : World} (h : RD w v s) : Calls Tryz.prog 112 #[v] w fun e w' => e = .returned (.int .i64 (s.e : Int)) ∧ w' = w := by
  rcases h with ⟨rfl, rfl⟩ | ⟨p, rfl, hb, rfl⟩ | ⟨p, rfl, h⟩
  · exact err_nil w
  · exact err_no p w (cellOf hb 0)
  · obtain ⟨a, cap, hb, _⟩ := h.box
    exact err_yes p _ w (cellOf hb 0) (cellOf hb 1)
set_option maxRecDepth 100000 in
set_option maxHeartbeats 400000 in
theorem left_nil (w : World) : Calls Tryz.prog 113 #[.pointer none] w fun e w' => e = .returned (.int .i64 0) ∧ w' = w := by
  go_enter Tryz.func113, Tryz.ntmps113
  go_wp2
  go_ret
  exact ⟨rfl, rfl⟩
set_option maxRecDepth 100000 in
set_option maxHeartbeats 400000 in
theorem left_yes (p : Nat) (a : Option Addr) (n cap : Nat) (w : World) (c2 : w.cell? ⟨p, 2, none⟩ = some (.slice a n cap)) : Calls Tryz.prog 113 #[.pointer (some ⟨p, 0, none⟩)] w fun e w' => e = .returned (.int .i64 (n : Int)) ∧ w' = w := by
  go_enter Tryz.func113, Tryz.ntmps113
  go_wp2
  go_ret
  exact ⟨rfl, rfl⟩
set_option maxRecDepth 100000 in
theorem left_any {v : Value} {s : M.St} {w : World} (h : RD w v s) : Calls Tryz.prog 113 #[v] w fun e w' => e = .returned (.int .i64 (s.l.length : Int)) ∧ w' = w := by
  rcases h with ⟨rfl, rfl⟩ | ⟨p, rfl, hb, rfl⟩ | ⟨p, rfl, h⟩
  · exact left_nil w
  · exact left_yes p none 0 0 w (cellOf hb 2)
  · obtain ⟨a, cap, hb, _⟩ := h.box
    exact left_yes p _ _ _ w (cellOf hb 2)
set_option maxRecDepth 100000 in
set_option maxHeartbeats 400000 in
theorem refuse_box (p : Nat) (x0 x1 x2 : Value) (n : Int) (w : World) (hb : w.heap[p]? = some (.cells #[x0, x1, x2] 180 (0, 0))) :
    Calls Tryz.prog 152 #[.pointer (some ⟨p, 0, none⟩), .int .i64 n] w fun e w' => e = .returned (.tuple #[]) ∧ w' = w.setRow p #[x0, .int .i64 n, .slice none 0 0] := by
  have c1 : w.cell? ⟨p, 1, none⟩ = some x1 := cellOf hb 1
  have c2 : w.cell? ⟨p, 2, none⟩ = some x2 := cellOf hb 2
  have f1 : w.frozen? ⟨p, 1, none⟩ = false := frozen_of_row w p 1 _ 180 hb
  have f2 : w.frozen? ⟨p, 2, none⟩ = false := frozen_of_row w p 2 _ 180 hb
  have e1 : w.setCell ⟨p, 1, none⟩ (.int .i64 n) = w.setRow p #[x0, .int .i64 n, x2] := setCell_eq_setRow w p 1 _ 180 _ _ hb
  have E2 := hid (show (w.setCell ⟨p, 1, none⟩ (.int .i64 n)).setCell ⟨p, 2, none⟩ (.slice none 0 0) = w.setRow p #[x0, .int .i64 n, .slice none 0 0] by
    rw [e1, setCell_eq_setRow _ p 2 _ 180 _ _ (setRow_heap w p _ _ 180 _ hb), setRow_setRow]; rfl)
  clear e1 hb
  go_enter Tryz.func152, Tryz.ntmps152
  go_wp2
  go_end0
  exact ⟨rfl, E2.out⟩
set_option maxRecDepth 100000 in
set_option maxHeartbeats 400000 in
theorem bad_box (p : Nat) (x0 x1 : Value) (n : Int) (w : World) (hb : w.heap[p]? = some (.cells #[x0, x1] 156 (0, 0))) :
    Calls Tryz.prog 148 #[.pointer (some ⟨p, 0, none⟩), .int .i64 n] w fun e w' => e = .returned (.tuple #[]) ∧ w' = w.setRow p #[.slice none 0 0, .int .i64 n] := by
  have c1 : w.cell? ⟨p, 1, none⟩ = some x1 := cellOf hb 1
  have c2 : w.cell? ⟨p, 0, none⟩ = some x0 := cellOf hb 0
  have f1 : w.frozen? ⟨p, 1, none⟩ = false := frozen_of_row w p 1 _ 156 hb
  have f2 : w.frozen? ⟨p, 0, none⟩ = false := frozen_of_row w p 0 _ 156 hb
  have e1 : w.setCell ⟨p, 1, none⟩ (.int .i64 n) = w.setRow p #[x0, .int .i64 n] := setCell_eq_setRow w p 1 _ 156 _ _ hb
  have E2 := hid (show (w.setCell ⟨p, 1, none⟩ (.int .i64 n)).setCell ⟨p, 0, none⟩ (.slice none 0 0) = w.setRow p #[.slice none 0 0, .int .i64 n] by
    rw [e1, setCell_eq_setRow _ p 0 _ 156 _ _ (setRow_heap w p _ _ 156 _ hb), setRow_setRow]; rfl)
  clear e1 hb
  go_enter Tryz.func148, Tryz.ntmps148
  go_wp2
  go_end0
  exact ⟨rfl, E2.out⟩
end Go.Proofs.YtjlennpoaefllaaGreatDoor

/- Bytes that are taken, by a reader and by the reference's. -/
namespace Go.Proofs.YtjlennpoaefllaaGreatDoor
open Go.RowKit

set_option maxHeartbeats 400000 in
theorem take_ref (v : Value) (n : Int) (e : Nat) (w : World) (he : e ≠ 0) (H : Hid (Calls Tryz.prog 112 #[v] w fun r w' => r = .returned (.int .i64 (e : Int)) ∧ w' = w)) :
    Calls Tryz.prog 138 #[v, .int .i64 n] w fun r w' => r = .returned (.slice none 0 0) ∧ w' = w := by
  have h1 : ¬ ((e : Int) = 0) := by omega
  clear he
  go_enter Tryz.func138, Tryz.ntmps138
  go_wp2_with (go_at_call 112; refine H.out.mono ?_; rintro e w' ⟨rfl, rfl⟩)
  go_ret
  exact ⟨rfl, rfl⟩
set_option maxHeartbeats 400000 in
theorem take_short (p : Nat) (a : Option Addr) (len cap n : Nat) (w : World) (hb : w.heap[p]? = some (.cells #[.bool true, .int .i64 0, .slice a len cap] 180 (0, 0))) (hn : len < n) :
    Calls Tryz.prog 138 #[.pointer (some ⟨p, 0, none⟩), .int .i64 (n : Int)] w fun r w' => r = .returned (.slice none 0 0) ∧ w' = w.setRow p #[.bool true, .int .i64 21, .slice none 0 0] := by
  have H := hid (err_yes p 0 w (cellOf hb 0) (cellOf hb 1))
  have HR := hid (refuse_box p _ _ _ 21 w hb)
  have c2 : w.cell? ⟨p, 2, none⟩ = some (.slice a len cap) := cellOf hb 2
  have hn' : (len : Int) < (n : Int) := by omega
  clear hb hn
  go_enter Tryz.func138, Tryz.ntmps138
  go_wp2_with (first | (go_at_call 112; refine H.out.mono ?_; rintro e w' ⟨rfl, rfl⟩) | (go_at_call 152; refine HR.out.mono ?_; rintro e w2 ⟨rfl, rfl⟩))
  go_ret
  exact ⟨rfl, rfl⟩
set_option maxHeartbeats 400000 in
theorem take_ok (p : Nat) (a : Option Addr) (len cap n : Nat) (w : World) (hb : w.heap[p]? = some (.cells #[.bool true, .int .i64 0, .slice a len cap] 180 (0, 0))) (hn : n ≤ len) (hc : len ≤ cap) :
    Calls Tryz.prog 138 #[.pointer (some ⟨p, 0, none⟩), .int .i64 (n : Int)] w fun r w' => r = .returned (.slice a n cap) ∧ w' = w.setRow p #[.bool true, .int .i64 0, .slice (if cap = n then a else a.map (·.add n)) (len - n) (cap - n)] := by
  have H := hid (err_yes p 0 w (cellOf hb 0) (cellOf hb 1))
  have c2 : w.cell? ⟨p, 2, none⟩ = some (.slice a len cap) := cellOf hb 2
  have f2 : w.frozen? ⟨p, 2, none⟩ = false := frozen_of_row w p 2 _ 180 hb
  have E := hid (fun u => show w.setCell ⟨p, 2, none⟩ u = w.setRow p #[.bool true, .int .i64 0, u] from setCell_eq_setRow w p 2 _ 180 _ _ hb)
  have hn' : (n : Int) ≤ (len : Int) := by omega
  have hn2 : (n : Int) ≤ (cap : Int) := by omega
  clear hb hn hc
  go_enter Tryz.func138, Tryz.ntmps138
  go_wp2_with (first | (go_at_call 112; refine H.out.mono ?_; rintro e w' ⟨rfl, rfl⟩))
  all_goals (go_ret; exact ⟨rfl, E.out _⟩)
/-- What is taken. -/
def PTake (w : World) (v : Value) (n : Nat) (s : M.St) (e : Ending) (w' : World) : Prop :=
  ∃ a cap, e = .returned (.slice a (M.takeR n s).1.length cap) ∧ At w' a (M.takeR n s).1 ∧ RD w' v (M.takeR n s).2 ∧ Touch (Own1 v) w w'
theorem take_any {v : Value} {s : M.St} {w : World} (n : Nat) (h : RD w v s) : Calls Tryz.prog 138 #[v, .int .i64 (n : Int)] w (PTake w v n s) := by
  by_cases he : s.e = 0
  · obtain ⟨p, rfl, hR⟩ := h.made he
    obtain ⟨a, cap, hb, hL⟩ := hR.box
    rw [he] at hb
    by_cases hn : s.l.length < n
    · refine (take_short p a _ cap n w hb hn).mono ?_
      rintro e w' ⟨rfl, hw⟩
      obtain ⟨h1, h2⟩ := hR.set (e := 21) (l := []) hw (Lies.nil w p) (fun _ => rfl) (by simp) (by omega)
      rw [PTake, M.takeR_short he hn]
      exact ⟨none, 0, rfl, At.nil _ _, .inr (.inr ⟨p, rfl, h1⟩), h2⟩
    · refine (take_ok p a _ cap n w hb (by omega) hL.room).mono ?_
      rintro e w' ⟨rfl, hw⟩
      rw [← List.length_drop] at hw
      obtain ⟨h1, h2⟩ := hR.set (e := 0) (l := s.l.drop n) hw (hL.drop n (by omega)) (fun h => absurd rfl h) (by rw [List.length_drop]; have := hR.len; omega) (by omega)
      rw [PTake, M.takeR_ok he hn]
      have hlen : (s.l.take n).length = n := by rw [List.length_take]; omega
      refine ⟨a, cap, by rw [hlen], (hL.at_.pre n).block (fun b o e hb => ?_), .inr (.inr ⟨p, rfl, h1⟩), h2⟩
      refine h2.block b hb (fun c => ?_)
      have h3 : b < p := (hL.low _ e).2
      simp only [Own1, Value.pointer.injEq, Option.some.injEq, Addr.mk.injEq] at c
      omega
  · refine (take_ref v n s.e w he (err_any h)).mono ?_
    rintro e w' ⟨rfl, rfl⟩
    rw [PTake, M.takeR_ref he]
    exact ⟨none, 0, rfl, At.nil _ _, h, Touch.refl _ _⟩

set_option maxHeartbeats 400000 in
theorem rtake_ref (p : Nat) (n : Int) (e : Nat) (w : World) (he : e ≠ 0) (c1 : w.cell? ⟨p, 1, none⟩ = some (.int .i64 (e : Int))) :
    Calls Tryz.prog 131 #[.pointer (some ⟨p, 0, none⟩), .int .i64 n] w fun r w' => r = .returned (.slice none 0 0) ∧ w' = w := by
  have h1 : ¬ ((e : Int) = 0) := by omega
  clear he
  go_enter Tryz.func131, Tryz.ntmps131
  go_wp2
  go_ret
  exact ⟨rfl, rfl⟩
set_option maxHeartbeats 400000 in
theorem rtake_short (p : Nat) (a : Option Addr) (len cap n : Nat) (w : World) (hb : w.heap[p]? = some (.cells #[.slice a len cap, .int .i64 0] 156 (0, 0))) (hn : len < n) :
    Calls Tryz.prog 131 #[.pointer (some ⟨p, 0, none⟩), .int .i64 (n : Int)] w fun r w' => r = .returned (.slice none 0 0) ∧ w' = w.setRow p #[.slice none 0 0, .int .i64 21] := by
  have HR := hid (bad_box p _ _ 21 w hb)
  have c1 : w.cell? ⟨p, 1, none⟩ = some (.int .i64 0) := cellOf hb 1
  have c2 : w.cell? ⟨p, 0, none⟩ = some (.slice a len cap) := cellOf hb 0
  have hn' : (len : Int) < (n : Int) := by omega
  clear hb hn
  go_enter Tryz.func131, Tryz.ntmps131
  go_wp2_with (first | (go_at_call 148; refine HR.out.mono ?_; rintro e w2 ⟨rfl, rfl⟩))
  go_ret
  exact ⟨rfl, rfl⟩
set_option maxHeartbeats 400000 in
theorem rtake_ok (p : Nat) (a : Option Addr) (len cap n : Nat) (w : World) (hb : w.heap[p]? = some (.cells #[.slice a len cap, .int .i64 0] 156 (0, 0))) (hn : n ≤ len) (hc : len ≤ cap) :
    Calls Tryz.prog 131 #[.pointer (some ⟨p, 0, none⟩), .int .i64 (n : Int)] w fun r w' => r = .returned (.slice a n cap) ∧ w' = w.setRow p #[.slice (if cap = n then a else a.map (·.add n)) (len - n) (cap - n), .int .i64 0] := by
  have c1 : w.cell? ⟨p, 1, none⟩ = some (.int .i64 0) := cellOf hb 1
  have c2 : w.cell? ⟨p, 0, none⟩ = some (.slice a len cap) := cellOf hb 0
  have f2 : w.frozen? ⟨p, 0, none⟩ = false := frozen_of_row w p 0 _ 156 hb
  have E := hid (fun u => show w.setCell ⟨p, 0, none⟩ u = w.setRow p #[u, .int .i64 0] from setCell_eq_setRow w p 0 _ 156 _ _ hb)
  have hn' : (n : Int) ≤ (len : Int) := by omega
  have hn2 : (n : Int) ≤ (cap : Int) := by omega
  clear hb hn hc
  go_enter Tryz.func131, Tryz.ntmps131
  go_wp2
  all_goals (go_ret; exact ⟨rfl, E.out _⟩)
/-- What the reference's takes. -/
def PRTake (w : World) (p : Nat) (n : Nat) (s : M.St) (e : Ending) (w' : World) : Prop :=
  ∃ a cap, e = .returned (.slice a (M.takeR n s).1.length cap) ∧ At w' a (M.takeR n s).1 ∧ IsS w' p (M.takeR n s).2 ∧ Touch (Own1 (.pointer (some ⟨p, 0, none⟩))) w w'
theorem rtake_any {p : Nat} {s : M.St} {w : World} (n : Nat) (h : IsS w p s) : Calls Tryz.prog 131 #[.pointer (some ⟨p, 0, none⟩), .int .i64 (n : Int)] w (PRTake w p n s) := by
  by_cases he : s.e = 0
  · obtain ⟨a, cap, hb, hL⟩ := h.box
    rw [he] at hb
    by_cases hn : s.l.length < n
    · refine (rtake_short p a _ cap n w hb hn).mono ?_
      rintro e w' ⟨rfl, hw⟩
      obtain ⟨h1, h2⟩ := h.set (e := 21) (l := []) hw (Lies.nil w p) (fun _ => rfl) (by simp) (by omega)
      rw [PRTake, M.takeR_short he hn]
      exact ⟨none, 0, rfl, At.nil _ _, h1, h2⟩
    · refine (rtake_ok p a _ cap n w hb (by omega) hL.room).mono ?_
      rintro e w' ⟨rfl, hw⟩
      rw [← List.length_drop] at hw
      obtain ⟨h1, h2⟩ := h.set (e := 0) (l := s.l.drop n) hw (hL.drop n (by omega)) (fun h => absurd rfl h) (by rw [List.length_drop]; have := h.len; omega) (by omega)
      rw [PRTake, M.takeR_ok he hn]
      have hlen : (s.l.take n).length = n := by rw [List.length_take]; omega
      refine ⟨a, cap, by rw [hlen], (hL.at_.pre n).block (fun b o e hb => ?_), h1, h2⟩
      refine h2.block b hb (fun c => ?_)
      have h3 : b < p := (hL.low _ e).2
      simp only [Own1, Value.pointer.injEq, Option.some.injEq, Addr.mk.injEq] at c
      omega
  · obtain ⟨a, cap, hb, hL⟩ := h.box
    refine (rtake_ref p n s.e w he (cellOf hb 1)).mono ?_
    rintro e w' ⟨rfl, rfl⟩
    rw [PRTake, M.takeR_ref he]
    exact ⟨none, 0, rfl, At.nil _ _, h, Touch.refl _ _⟩
end Go.Proofs.YtjlennpoaefllaaGreatDoor

/- A reader's Uint. -/
namespace Go.Proofs.YtjlennpoaefllaaGreatDoor
open Go.RowKit

set_option maxRecDepth 100000 in
theorem or_add (m x i : Nat) (h : m < 2 ^ i) : m ||| (x * 2 ^ i) = m + x * 2 ^ i := by
  rw [Nat.or_comm, Nat.mul_comm, Nat.add_comm, Nat.two_pow_add_eq_or_of_lt h]

/-- What a reader's call tells, and what it turns. -/
def PR (w : World) (v x : Value) (s : M.St) (e : Ending) (w' : World) : Prop := e = .returned x ∧ RD w' v s ∧ Touch (Own1 v) w w'
end Go.Proofs.YtjlennpoaefllaaGreatDoor

/- The reference's Uint. -/
namespace Go.Proofs.YtjlennpoaefllaaGreatDoor
open Go.RowKit

/-- What a call of the reference's reader tells, and what it turns. -/
def PS (w : World) (p : Nat) (x : Value) (s : M.St) (e : Ending) (w' : World) : Prop := e = .returned x ∧ IsS w' p s ∧ Touch (Own1 (.pointer (some ⟨p, 0, none⟩))) w w'

/-- A byte is read. -/
theorem IsS.next {w : World} {p : Nat} {c : UInt8} {r : List UInt8} (h : IsS w p ⟨0, c :: r⟩) :
    ∃ b o cap, w.cell? ⟨p, 0, none⟩ = some (.slice (some ⟨b, o, none⟩) (r.length + 1) cap) ∧ w.cell? ⟨p, 1, none⟩ = some (.int .i64 0) ∧ w.frozen? ⟨p, 0, none⟩ = false ∧ w.cell? ⟨b, o, none⟩ = some (.int .u8 (c.toNat : Int)) ∧ r.length + 1 ≤ cap ∧
      (∀ u e, Calls Tryz.prog 148 #[.pointer (some ⟨p, 0, none⟩), .int .i64 e] (w.setCell ⟨p, 0, none⟩ u) fun x w' => x = .returned (.tuple #[]) ∧ w' = w.setRow p #[.slice none 0 0, .int .i64 e]) ∧
      IsS (w.setCell ⟨p, 0, none⟩ (.slice (if cap = 1 then some ⟨b, o, none⟩ else some ⟨b, o + 1, none⟩) r.length (cap - 1))) p ⟨0, r⟩ ∧ Touch (Own1 (.pointer (some ⟨p, 0, none⟩))) w (w.setCell ⟨p, 0, none⟩ (.slice (if cap = 1 then some ⟨b, o, none⟩ else some ⟨b, o + 1, none⟩) r.length (cap - 1))) := by
  obtain ⟨a, cap, hb, hL⟩ := h.box
  obtain ⟨b, o, rfl, hc⟩ := hL.at_ 0 c rfl
  have E := fun u => show w.setCell ⟨p, 0, none⟩ u = w.setRow p #[u, .int .i64 0] from setCell_eq_setRow w p 0 _ 156 _ _ hb
  have hD := hL.drop 1 (by simp)
  have hl := h.len
  simp only [List.length_cons] at hl
  refine ⟨b, o, cap, cellOf hb 0, cellOf hb 1, frozen_of_row w p 0 _ 156 hb, hc, hL.room, fun u e => ?_, ?_⟩
  · refine (bad_box p u (.int .i64 0) e _ (by rw [E]; exact setRow_heap w p _ _ 156 _ hb)).mono ?_
    rintro x w' ⟨rfl, rfl⟩
    exact ⟨rfl, by rw [E, setRow_setRow]⟩
  · rw [Option.map_some, Addr.add_mid] at hD
    refine h.set (e := 0) (l := r) ?_ hD (fun h => absurd rfl h) (by omega) (by omega)
    rw [E]; rfl

end Go.Proofs.YtjlennpoaefllaaGreatDoor

/- Fixed, Byte, Int, Text and Float, of a reader and of the reference's. -/
namespace Go.Proofs.YtjlennpoaefllaaGreatDoor
open Go.RowKit

set_option maxRecDepth 100000 in
theorem take_next {bs : List UInt8} {k : Nat} {c : UInt8} (h : bs[k]? = some c) : bs.take (k + 1) = bs.take k ++ [c] := by
  rw [List.take_add_one, h]; rfl
set_option maxRecDepth 100000 in
theorem unfix_step {t : List UInt8} {k : Nat} {c : UInt8} (h : t[k]? = some c) (h8 : t.length ≤ 8) :
    M.unfix (t.take (k + 1)) = M.unfix (t.take k) * 256 + c.toNat ∧ M.unfix (t.take k) * 256 < 18446744073709551616 ∧ M.unfix (t.take k) * 256 + c.toNat < 18446744073709551616 := by
  have hk : k < t.length := by
    rcases Nat.lt_or_ge k t.length with h1 | h1
    · exact h1
    · rw [List.getElem?_eq_none h1] at h; cases h
  have hc := c.toNat_lt
  have h1 := (M.fix_unfix k (t.take k) (by rw [List.length_take]; omega)).2
  have h2 : 256 ^ k ≤ 256 ^ 7 := Nat.pow_le_pow_right (by decide) (by omega)
  refine ⟨by rw [take_next h, M.unfix_snoc], ?_, ?_⟩ <;> omega
set_option maxRecDepth 100000 in
theorem or_byte (x : Nat) (c : UInt8) (h : x * 256 < 18446744073709551616) : bits .or .u64 ((x : Int) * 256) (c.toNat : Int) = ((x * 256 + c.toNat : Nat) : Int) := by
  have hc := c.toNat_lt
  rw [show (x : Int) * 256 = ((x * 256 : Nat) : Int) by omega, bits_or_u64_nat _ _ h (by omega), Nat.or_comm, show x * 256 = x * 2 ^ 8 from rfl, or_add _ _ 8 (by omega), Nat.add_comm]

set_option maxRecDepth 100000 in
set_option maxHeartbeats 1000000 in
theorem fixed_any {v : Value} {s : M.St} {w : World} (z : Int) (h : RD w v s) : Calls Tryz.prog 111 #[v, .int .i64 z] w (PR w v (.int .u64 ((M.fixedR z s).1 : Int)) (M.fixedR z s).2) := by
  have H1 := hid (within_any z w)
  have H2 := hid (take_any (M.clamp z) h)
  clear h
  go_enter Tryz.func111, Tryz.ntmps111
  go_wp2_with (first
    | (go_at_call 135; refine H1.out.mono ?_; rintro e w' ⟨rfl, rfl⟩)
    | (go_at_call 138; refine H2.out.mono ?_; rintro e w2 ⟨a, cap, rfl, hAt, hRD, hT⟩; have HA := hid hAt; have HR := hid (And.intro hRD hT); clear hAt hRD hT))
  obtain ⟨t, ht⟩ : ∃ t, (M.takeR (M.clamp z) s).1 = t := ⟨_, rfl⟩
  have HF := hid (show M.unfix t = (M.fixedR z s).1 by rw [← ht]; rfl)
  have h8 : t.length ≤ 8 := by rw [← ht]; exact Nat.le_trans (M.takeR_len _ _) (M.clamp_le z)
  rw [ht] at HA ⊢
  clear ht
  go_loopw [5, 13] (fun x i wr => ∃ k : Nat, k ≤ t.length ∧ x = .int .u64 (M.unfix (t.take k) : Int) ∧ i = .int .i64 (k : Int) ∧ wr = w2) (fun _ i _ => t.length - (intOf i).toNat)
  case atStart => exact ⟨0, by omega, rfl, rfl, rfl⟩
  case round =>
    obtain ⟨k, hk, rfl, rfl, rfl⟩ := hrel
    by_cases hlt : k < t.length
    · obtain ⟨c, hc⟩ : ∃ c, t[k]? = some c := ⟨t[k], List.getElem?_eq_getElem hlt⟩
      obtain ⟨b, o, rfl, hcell⟩ := HA.out k c hc
      obtain ⟨h1, h2, h3⟩ := unfix_step hc h8
      have HN := hid h1
      clear hc h1
      generalize M.unfix (t.take k) = x at *
      have hor := or_byte x c h2
      go_wp2
      go_roundw
      case rel => exact ⟨k + 1, by omega, by rw [HN.out]; simp, by go_num, by first | rfl | trivial⟩
      case measure => simp [intOf]; omega
    · obtain rfl : k = t.length := by omega
      go_wp2
      go_ret
      refine ⟨?_, HR.out.1, HR.out.2⟩
      show Ending.returned (.int .u64 ((M.unfix (t.take t.length) : Nat) : Int)) = _
      rw [List.take_length, HF.out]

set_option maxRecDepth 100000 in
set_option maxHeartbeats 1000000 in
theorem rfixed_at {p : Nat} {s : M.St} {w : World} (z z' : Int) (hz : (z < 0 ∧ z' = 0) ∨ (8 < z ∧ z' = 8) ∨ (0 ≤ z ∧ z ≤ 8 ∧ z' = z)) (hzc : z' = (M.clamp z : Int)) (h : IsS w p s) : Calls Tryz.prog 104 #[.pointer (some ⟨p, 0, none⟩), .int .i64 z] w (PS w p (.int .u64 ((M.fixedR z s).1 : Int)) (M.fixedR z s).2) := by
  have H2 := hid (rtake_any (M.clamp z) h)
  rw [← hzc] at H2
  obtain ⟨t, ht⟩ : ∃ t, (M.takeR (M.clamp z) s).1 = t := ⟨_, rfl⟩
  have HF := hid (show M.unfix t = (M.fixedR z s).1 by rw [← ht]; rfl)
  have h8 : t.length ≤ 8 := by rw [← ht]; exact Nat.le_trans (M.takeR_len _ _) (M.clamp_le z)
  have HT := hid ht
  clear h hzc ht
  rcases hz with ⟨hz, rfl⟩ | ⟨hz, rfl⟩ | ⟨hz, hz2, rfl⟩
  all_goals
    go_enter Tryz.func104, Tryz.ntmps104
    go_wp2_with (first
      | (go_at_call 131; refine H2.out.mono ?_; rintro e w2 ⟨a, cap, rfl, hAt, hRD, hT⟩; rw [HT.out] at hAt ⊢; have HA := hid hAt; have HR := hid (And.intro hRD hT); clear hAt hRD hT))
    go_loopw [6, 7] (fun x i wr => ∃ k : Nat, k ≤ t.length ∧ x = .int .u64 (M.unfix (t.take k) : Int) ∧ i = .int .i64 (k : Int) ∧ wr = w2) (fun _ i _ => t.length - (intOf i).toNat)
    case atStart => exact ⟨0, by omega, rfl, rfl, rfl⟩
    case round =>
      obtain ⟨k, hk, rfl, rfl, rfl⟩ := hrel
      by_cases hlt : k < t.length
      · obtain ⟨c, hc⟩ : ∃ c, t[k]? = some c := ⟨t[k], List.getElem?_eq_getElem hlt⟩
        obtain ⟨b, o, rfl, hcell⟩ := HA.out k c hc
        obtain ⟨h1, h2, h3⟩ := unfix_step hc h8
        have HN := hid h1
        clear hc h1
        generalize M.unfix (t.take k) = x at *
        go_wp2
        go_roundw
        case rel => exact ⟨k + 1, by omega, by rw [HN.out]; simp, by go_num, by first | rfl | trivial⟩
        case measure => simp [intOf]; omega
      · obtain rfl : k = t.length := by omega
        go_wp2
        go_ret
        refine ⟨?_, HR.out.1, HR.out.2⟩
        show Ending.returned (.int .u64 ((M.unfix (t.take t.length) : Nat) : Int)) = _
        rw [List.take_length, HF.out]
set_option maxRecDepth 100000 in
theorem rfixed_any {p : Nat} {s : M.St} {w : World} (z : Int) (h : IsS w p s) : Calls Tryz.prog 104 #[.pointer (some ⟨p, 0, none⟩), .int .i64 z] w (PS w p (.int .u64 ((M.fixedR z s).1 : Int)) (M.fixedR z s).2) := by
  refine rfixed_at z _ ?_ rfl h
  unfold M.clamp
  split
  · exact .inl ⟨by assumption, rfl⟩
  · split
    · exact .inr (.inl ⟨by assumption, rfl⟩)
    · exact .inr (.inr ⟨by omega, by omega, by omega⟩)
end Go.Proofs.YtjlennpoaefllaaGreatDoor

/- Int, Text and Float, of a reader and of the reference's. -/
namespace Go.Proofs.YtjlennpoaefllaaGreatDoor
open Go.RowKit

end Go.Proofs.YtjlennpoaefllaaGreatDoor

/- Clone, Read; slices of bytes joined in new memory. -/
namespace Go.Proofs.YtjlennpoaefllaaGreatDoor
open Go.RowKit

theorem Own.lies {w : World} {base : Nat} {v : Value} {bs : List UInt8} (h : w.ownsRow base 5 1 v bs.length (S bs)) : ∃ a cap, v = .slice a bs.length cap ∧ Lies w w.heap.size a bs cap := by
  rcases h.2 with ⟨rfl, e⟩ | ⟨g, cap, cur, rfl, hb, hg, hc, h2, h3, h4⟩
  · obtain rfl : bs = [] := List.eq_nil_of_length_eq_zero e
    exact ⟨none, 0, rfl, Lies.nil _ _⟩
  · refine ⟨_, cap, rfl, At.own h, hc, fun e => (by cases e), fun ad e => ?_⟩
    obtain rfl : (⟨g, 0, none⟩ : Addr) = ad := by simpa using e
    exact ⟨rfl, by
      rcases Nat.lt_or_ge g w.heap.size with h | h
      · exact h
      · rw [Array.getElem?_eq_none h] at hg; cases hg⟩

/-- Bytes in new memory. -/
def POwn (w : World) (bs : List UInt8) (e : Ending) (w' : World) : Prop := ∃ v, e = .returned v ∧ w'.ownsRow w.heap.size 5 1 v bs.length (S bs) ∧ Adds w w'

set_option maxHeartbeats 400000 in
theorem clone_nil (w : World) : Calls Tryz.prog 137 #[.slice none 0 0] w fun e w' => e = .returned (.slice none 0 0) ∧ w' = w := by
  have he := Lib.run_eql_slice_nil (P := Tryz.prog) w 43 5 none 0 0 0 0 Tryz.underlying43
  go_enter Tryz.func137, Tryz.ntmps137
  go_wp2
  go_ret
  exact ⟨rfl, rfl⟩
set_option maxHeartbeats 400000 in
theorem clone_some (ad : Addr) (bs : List UInt8) (cap : Nat) (w : World) (hl : bs.length ≤ 1000000) (hA : At w (some ad) bs) :
    Calls Tryz.prog 137 #[.slice (some ad) bs.length cap] w (POwn w bs) := by
  have HA := hid (hA.adds ((Touch.refl _ w).alloc (.cells #[] 5)))
  have HO := hid (World.ownsRow_lit (base := w.heap.size) (e := 5) (size := 1) w #[] 0 (Nat.le_refl _) (by decide) rfl)
  have HL := hid hl
  have he := Lib.run_eql_slice_nil (P := Tryz.prog) w 43 5 (some ad) bs.length cap 0 0 Tryz.underlying43
  clear hA hl
  go_enter Tryz.func137, Tryz.ntmps137
  go_wp2_with (first
    | (at_builtin; refine append_bytes rfl _ _ rfl w.heap.size (.slice (some ⟨w.heap.size, 0, none⟩) 0 0) 0 [] rfl HO.out (some ad) bs cap rfl (fun e => by cases e) HA.out (by have := HL.out; omega) (by simp) ?_; intro v1 w1 hown1 hgrow1 hne1; have HQ := hid (And.intro hown1 (show Adds w w1 from Touch.grown ((Touch.refl _ w).alloc _) hgrow1 (fun k hk hlt => by simp [Value.ownBlock] at hk; omega))); clear hown1 hgrow1 hne1))
  go_ret
  exact ⟨_, rfl, by have h := HQ.out.1; rw [Nat.zero_add, List.nil_append] at h; exact h, HQ.out.2⟩
/-- Bytes of one's own. -/
def PClone (w : World) (bs : List UInt8) (e : Ending) (w' : World) : Prop := ∃ a cap, e = .returned (.slice a bs.length cap) ∧ Lies w' w'.heap.size a bs cap ∧ Adds w w'
theorem clone_any (a : Option Addr) (bs : List UInt8) (cap : Nat) (w : World) (hl : bs.length ≤ 1000000) (hcap : a = none → cap = 0) (hA : At w a bs) : Calls Tryz.prog 137 #[.slice a bs.length cap] w (PClone w bs) := by
  cases a with
  | none =>
    obtain rfl := hcap rfl
    obtain rfl : bs = [] := by
      cases bs with
      | nil => rfl
      | cons c bs => obtain ⟨b, o', e, _⟩ := hA 0 c rfl; cases e
    refine (clone_nil w).mono ?_
    rintro e w' ⟨rfl, rfl⟩
    exact ⟨none, 0, rfl, Lies.nil _ _, Touch.refl _ _⟩
  | some ad =>
    refine (clone_some ad bs cap w hl hA).mono ?_
    rintro e w' ⟨v, rfl, h1, h2⟩
    obtain ⟨a, cap, rfl, h3⟩ := Own.lies h1
    exact ⟨a, cap, rfl, h3, h2⟩
/-- What Read makes. -/
def PRead (w : World) (bs : List UInt8) (e : Ending) (w' : World) : Prop := ∃ p, e = .returned (.pointer (some ⟨p, 0, none⟩)) ∧ w.heap.size ≤ p ∧ RD w' (.pointer (some ⟨p, 0, none⟩)) ⟨0, bs⟩ ∧ Adds w w'
set_option maxHeartbeats 400000 in
theorem read_any (a : Option Addr) (bs : List UInt8) (cap : Nat) (w : World) (hl : bs.length ≤ 1000000) (hcap : a = none → cap = 0) (hA : At w a bs) : Calls Tryz.prog 110 #[.slice a bs.length cap] w (PRead w bs) := by
  have H := hid (clone_any a bs cap w hl hcap hA)
  have HL := hid hl
  clear hcap hA hl
  go_enter Tryz.func110, Tryz.ntmps110
  go_wp2_with (first | (go_at_call 137; refine H.out.mono ?_; rintro e w1 ⟨a1, cap1, rfl, h1, h2⟩; have HQ := hid (And.intro h1 h2); clear h1 h2))
  go_ret
  have hA : Adds w (w1.alloc (.cells #[.bool true, .int .i64 0, .slice a1 bs.length cap1] 180)) := HQ.out.2.alloc _
  refine ⟨w1.heap.size, rfl, HQ.out.2.size, .inr (.inr ⟨_, rfl, ⟨⟨a1, cap1, heap_alloc_new w1 _, ?_⟩, fun h => absurd rfl h, HL.out, by simp⟩⟩), hA⟩
  exact HQ.out.1.adds ((Touch.refl _ w1).alloc _)

theorem zeros_size (n : Nat) : (Builtin.zeroCells #[Value.int .u8 0] n).size = n := by simp [Builtin.zeroCells]
set_option maxHeartbeats 400000 in
theorem grow_none (w : World) : Calls Tryz.prog 136 #[.slice none 0 0, .int .i64 0] w fun e w' => e = .returned (.slice none 0 0) ∧ w' = w := by
  go_enter Tryz.func136, Tryz.ntmps136
  go_wp2
  go_ret
  exact ⟨rfl, rfl⟩
set_option maxHeartbeats 400000 in
theorem grow_some (n : Nat) (hn : 0 < n) (hn2 : n ≤ 10000000) (w : World) : Calls Tryz.prog 136 #[.slice none 0 0, .int .i64 (n : Int)] w (POwn w []) := by
  obtain ⟨i0, hi, hz0, hz1, hz2⟩ := info5all
  have hr := hid (fun ty => Lib.run_append_nil_zeros (P := Tryz.prog) w 43 3 ty 5 i0 (.int .u8 0) .i64 .i64 Tryz.underlying43 Tryz.underlying3 hi hz0 n hn (by omega) (by omega) (by rw [hz2]; omega))
  clear hi hz0 hz1 hz2
  have hn' : (0 : Int) < (n : Int) := by omega
  go_enter Tryz.func136, Tryz.ntmps136
  go_wp2_with (first | (at_builtin; refine Lib.wpList_append_run _ rfl _ _ _ _ rfl _ _ rfl rfl _ _ (hr.out _) ?_))
  go_ret
  refine ⟨.slice (some ⟨w.heap.size, 0, none⟩) 0 (grownCap w n 0 5), rfl, ?_, (Touch.refl _ w).drew.alloc _⟩
  refine World.ownsRow_made (base := w.heap.size) w.drew _ _ (Nat.le_refl _) (grownCap_le_maxLen w n 0 5 (by unfold maxLen; omega)) ?_
  rw [Array.size_append, zeros_size, zeros_size]
  have := grownCap_ge w n 0 5
  omega
theorem grow_any (n : Nat) (hn : n ≤ 10000000) (w : World) : Calls Tryz.prog 136 #[.slice none 0 0, .int .i64 (n : Int)] w (POwn w []) := by
  rcases Nat.eq_zero_or_pos n with rfl | h0
  · refine (grow_none w).mono ?_
    rintro e w' ⟨rfl, rfl⟩
    exact ⟨_, rfl, World.ownsRow_nil _ _ _ _, Touch.refl _ _⟩
  · exact grow_some n h0 hn w

/-- A slice: where it lies, its bytes, its room. -/
structure Part where
  a : Option Addr
  bs : List UInt8
  cap : Nat
def flat (L : List Part) : List UInt8 := (L.map (·.bs)).flatten
theorem flat_next {L : List Part} {k : Nat} {x : Part} (h : L[k]? = some x) : flat (L.take (k + 1)) = flat (L.take k) ++ x.bs := by
  unfold flat
  rw [List.take_add_one, h]; simp
theorem flat_len (L : List Part) (k : Nat) : (flat (L.take k)).length ≤ (flat L).length := by
  have : flat L = flat (L.take k) ++ flat (L.drop k) := by
    unfold flat
    rw [← List.flatten_append, ← List.map_append, List.take_append_drop]
  rw [this, List.length_append]; omega
/-- Slices that lie in a row. -/
def Parts (w : World) (g : Nat) (L : List Part) : Prop := ∀ j x, L[j]? = some x → w.cell? ⟨g, j, none⟩ = some (.slice x.a x.bs.length x.cap) ∧ At w x.a x.bs ∧ (x.a = none → x.cap = 0)
theorem Parts.adds {w w' : World} {g : Nat} {L : List Part} (h : Parts w g L) (hA : Adds w w') : Parts w' g L := by
  intro j x hj
  obtain ⟨h1, h2, h3⟩ := h j x hj
  exact ⟨by rw [World.cell?_of_block (w := w) (hA.block g (World.block_lt_of_cell? w _ h1) id)]; exact h1, h2.adds hA, h3⟩
set_option maxRecDepth 100000 in
set_option maxHeartbeats 1000000 in
theorem concat_any (g : Nat) (L : List Part) (w : World) (hL : L.length ≤ 1000) (hf : (flat L).length ≤ 10000000) (hP : Parts w g L) : Calls Tryz.prog 108 #[.slice (some ⟨g, 0, none⟩) L.length L.length] w (POwn w (flat L)) := by
  have HP := hid hP
  have HG := hid (grow_any (flat L).length hf w)
  clear hP
  go_enter Tryz.func108, Tryz.ntmps108
  go_wp2
  go_loopw [3, 11] (fun x i wr => ∃ k : Nat, k ≤ L.length ∧ x = .int .i64 ((flat (L.take k)).length : Int) ∧ i = .int .i64 (k : Int) ∧ wr = w) (fun _ i _ => L.length - (intOf i).toNat)
  case atStart => exact ⟨0, by omega, rfl, rfl, rfl⟩
  case round =>
    obtain ⟨k, hk, rfl, rfl, hw⟩ := hrel
    obtain rfl := hw.symm
    by_cases hlt : k < L.length
    · obtain ⟨x, hx⟩ : ∃ x, L[k]? = some x := ⟨L[k], List.getElem?_eq_getElem hlt⟩
      obtain ⟨hcell, _, _⟩ := HP.out k x hx
      have hn := flat_len L (k + 1)
      have HN := hid (show (flat (L.take (k + 1))).length = (flat (L.take k)).length + x.bs.length by rw [flat_next hx, List.length_append])
      rw [HN.out] at hn
      clear hx
      generalize (flat (L.take k)).length = y at *
      go_wp2
      go_roundw
      case rel => exact ⟨k + 1, by omega, by rw [HN.out]; simp, by go_num, by first | rfl | trivial⟩
      case measure => simp [intOf]; omega
    · obtain rfl : k = L.length := by omega
      rw [List.take_length]
      go_wp2_with (first | (go_at_call 136; refine HG.out.mono ?_; rintro e w1 ⟨v0, rfl, h1, h2⟩; have HQ := hid (And.intro h1 h2); clear h1 h2))
      go_loopw [6, 27] (fun v i wz => ∃ k : Nat, k ≤ L.length ∧ i = .int .i64 (k : Int) ∧ Hid (wz.ownsRow w.heap.size 5 1 v (flat (L.take k)).length (S (flat (L.take k))) ∧ Adds w wz)) (fun _ i _ => L.length - (intOf i).toNat)
      case atStart => exact ⟨0, by omega, rfl, HQ.out.1, HQ.out.2⟩
      case round =>
        obtain ⟨k, hk, rfl, HI⟩ := hrel
        by_cases hlt : k < L.length
        · obtain ⟨x, hx⟩ : ∃ x, L[k]? = some x := ⟨L[k], List.getElem?_eq_getElem hlt⟩
          obtain ⟨hcell, hAt, hno⟩ := (HP.out.adds HI.out.2) k x hx
          have HN := hid (flat_next hx)
          have hn := flat_len L (k + 1)
          rw [HN.out, List.length_append] at hn
          have HA := hid (And.intro hAt (And.intro hno hn))
          clear hx hAt hno hn
          go_wp2_with (first
            | (at_builtin; refine append_bytes rfl _ _ rfl w.heap.size _ (flat (L.take k)).length (S (flat (L.take k))) rfl HI.out.1 x.a x.bs x.cap rfl HA.out.2.1 HA.out.1 (by have := HA.out.2.2; omega) HI.out.2.size ?_; intro v1 w1 hown1 hgrow1 hne1; have HQ1 := hid (And.intro hown1 hgrow1); clear hown1 hgrow1 hne1))
          go_roundw
          case rel =>
            refine ⟨k + 1, by omega, by go_num, ?_, ?_⟩
            · have h := HQ1.out.1
              rw [HN.out, List.length_append]
              rw [S, List.map_append]
              exact h
            · exact Touch.grown HI.out.2 HQ1.out.2 (fun j hj hlt => by have := (HI.out.1.lt j hj).1; omega)
          case measure => simp [intOf]; omega
        · obtain rfl : k = L.length := by omega
          go_wp2
          go_ret
          have h := HI.out.1
          rw [List.take_length] at h
          exact ⟨_, rfl, h, HI.out.2⟩
end Go.Proofs.YtjlennpoaefllaaGreatDoor
