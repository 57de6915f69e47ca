/- Texts put together: Mem, State, Leaf, Take, Uint, RUint, Fixed. -/
import Derived.Test.YtplppnngmlljnaaProg
import Derived.Test.YtplppnngmlljnaaQ01
import Derived.WalkKit
import Derived.WalkSpells
import Derived.WalkLawsBesides
import Derived.Below
import Derived.Deep.MidRow
import Derived.Laws.CopyOwn
import Derived.Laws.AppendOwnNone
import Derived.Laws.MakeOwn
import Derived.Lib.SliceRun
import Derived.Lib.AppendZeros
/- Worlds that turn in some blocks alone; bytes in memory; bytes put behind bytes. -/
namespace Go.Proofs.Ytplppnngmlljnaa
open Go.RowKit

/-- A fact kept from the walk. -/
theorem hid {p : Prop} (h : p) : Hid p := h

/-! ### Worlds that turn in some blocks alone -/
/-- From w to w' only blocks of which T says so have turned (and new ones have come). -/
structure Touch (T : Nat → Prop) (w w' : World) : Prop where
  os : w'.os = w.os
  tape : w'.tape = w.tape
  output : w'.output = w.output
  size : w.heap.size ≤ w'.heap.size
  block : ∀ k, k < w.heap.size → ¬ T k → w'.heap[k]? = w.heap[k]?

theorem Touch.refl (T : Nat → Prop) (w : World) : Touch T w w := ⟨rfl, rfl, rfl, Nat.le_refl _, fun _ _ _ => rfl⟩
theorem Touch.trans {T : Nat → Prop} {a b c : World} (h : Touch T a b) (k : Touch T b c) : Touch T a c :=
  ⟨k.os.trans h.os, k.tape.trans h.tape, k.output.trans h.output, Nat.le_trans h.size k.size, fun i hi hn => (k.block i (Nat.lt_of_lt_of_le hi h.size) hn).trans (h.block i hi hn)⟩
/-- Behind a first step: what the second one turns was there for the first (and T says so), or is new. -/
theorem Touch.then {T U : Nat → Prop} {a b c : World} (h : Touch T a b) (k : Touch U b c) (hu : ∀ i, i < a.heap.size → U i → T i) : Touch T a c :=
  ⟨k.os.trans h.os, k.tape.trans h.tape, k.output.trans h.output, Nat.le_trans h.size k.size, fun i hi hn => (k.block i (Nat.lt_of_lt_of_le hi h.size) (fun c => hn (hu i hi c))).trans (h.block i hi hn)⟩
theorem Touch.mono {T U : Nat → Prop} {w w' : World} (h : Touch T w w') (hu : ∀ i, i < w.heap.size → T i → U i) : Touch U w w' :=
  ⟨h.os, h.tape, h.output, h.size, fun i hi hn => h.block i hi (fun c => hn (hu i hi c))⟩
theorem Touch.drew {T : Nat → Prop} {a w : World} (h : Touch T a w) : Touch T a w.drew := ⟨h.os, h.tape, h.output, h.size, h.block⟩
theorem Touch.alloc {T : Nat → Prop} {a w : World} (h : Touch T a w) (o : Obj) : Touch T a (w.alloc o) :=
  h.trans ⟨rfl, rfl, rfl, by simp, fun k hk _ => Below.heap_alloc _ _ _ hk⟩
theorem Touch.setCell {T : Nat → Prop} {a w : World} (h : Touch T a w) {p : Addr} (hp : p.block < a.heap.size → T p.block) (u : Value) : Touch T a (w.setCell p u) :=
  h.then (U := fun k => k = p.block) ⟨rfl, rfl, rfl, by simp [World.setCell], fun k _ hk => Below.heap_setCell _ _ _ _ hk⟩ (fun i hi e => by subst e; exact hp hi)
theorem Touch.setRow {T : Nat → Prop} {a w : World} (h : Touch T a w) {g : Nat} (hp : g < a.heap.size → T g) (cs : Array Value) : Touch T a (w.setRow g cs) :=
  h.then (U := fun k => k = g) ⟨rfl, rfl, rfl, by simp [World.setRow], fun k _ hk => setRow_other w g k cs hk⟩ (fun i hi e => by subst e; exact hp hi)
theorem Touch.grown {T : Nat → Prop} {a w w' : World} {row : Option Nat} (h : Touch T a w) (hg : w.grownBy w' row) (hr : ∀ k, row = some k → k < a.heap.size → T k) : Touch T a w' :=
  h.then (U := fun k => row = some k) ⟨hg.os, hg.tape, hg.output, hg.size, fun k hk hn => hg.block k hk (fun e => hn e.symm)⟩ (fun i hi e => hr i e hi)
theorem Touch.below {T : Nat → Prop} {w w' : World} (h : Touch T w w') {B : Nat} (hB : B ≤ w.heap.size) (hT : ∀ k, k < B → ¬ T k) : Below B w w' :=
  ⟨h.os, h.tape, h.output, h.size, fun k hk => h.block k (by omega) (hT k hk)⟩
/-- Nothing that was there has turned. -/
abbrev Adds (w w' : World) : Prop := Touch (fun _ => False) w w'
theorem Adds.below {w w' : World} (h : Adds w w') : Below w.heap.size w w' := Touch.below h (Nat.le_refl _) (fun _ _ => id)
/-- A byte as a cell. -/
def B8 (b : UInt8) : Value := .int .u8 (b.toNat : Int)
/-- Bytes as cells. -/
def S (bs : List UInt8) : List Value := bs.map B8
theorem length_S (bs : List UInt8) : (S bs).length = bs.length := by simp [S]
theorem one_S (bs : List UInt8) : ∀ v ∈ S bs, v.oneCell' = true := by
  intro v hv
  simp only [S, List.mem_map] at hv
  obtain ⟨b, _, rfl⟩ := hv
  rfl
theorem S_get (bs : List UInt8) (j : Nat) : (S bs)[j]? = bs[j]?.map B8 := by simp [S]

/-- Where a slice's bytes lie. -/
def At (w : World) (a : Option Addr) (bs : List UInt8) : Prop := ∀ (j : Nat) (c : UInt8), bs[j]? = some c → ∃ b o, a = some ⟨b, o, none⟩ ∧ w.cell? ⟨b, o + j, none⟩ = some (.int .u8 (c.toNat : Int))
theorem At.nil (w : World) (a : Option Addr) : At w a [] := by intro j c h; simp at h
theorem At.block {w w' : World} {a : Option Addr} {bs : List UInt8} (h : At w a bs) (hb : ∀ b o, a = some ⟨b, o, none⟩ → b < w.heap.size → w'.heap[b]? = w.heap[b]?) : At w' a bs := by
  intro j c hj
  obtain ⟨b, o, rfl, hc⟩ := h j c hj
  exact ⟨b, o, rfl, by rw [World.cell?_of_block (w := w) (hb b o rfl (World.block_lt_of_cell? w _ hc))]; exact hc⟩
theorem At.adds {w w' : World} {a : Option Addr} {bs : List UInt8} (h : At w a bs) (hA : Adds w w') : At w' a bs := h.block (fun b _ _ hb => hA.block b hb id)
theorem At.pre {w : World} {a : Option Addr} {bs : List UInt8} (h : At w a bs) (n : Nat) : At w a (bs.take n) := by
  intro j c hj
  rw [List.getElem?_take] at hj
  split at hj
  · exact h j c hj
  · cases hj
theorem At.suf {w : World} {b o : Nat} {bs : List UInt8} (h : At w (some ⟨b, o, none⟩) bs) (n : Nat) : At w (some ⟨b, o + n, none⟩) (bs.drop n) := by
  intro j c hj
  rw [List.getElem?_drop] at hj
  obtain ⟨b', o', e, hc⟩ := h _ c hj
  obtain ⟨rfl, rfl⟩ : b = b' ∧ o = o' := by simpa using e
  exact ⟨_, _, rfl, by rw [Nat.add_assoc]; exact hc⟩

theorem info5all : ∃ i, Try.prog.info? 5 = some i ∧ i.zero = some (.int .u8 0) ∧ i.size = 1 ∧ i.bytes = 1 := by
  have h : (Try.prog.info? 5).map (fun i => (i.zero, i.size, i.bytes)) = some (some (.int .u8 0), 1, 1) := by kernel_rfl
  cases hq : Try.prog.info? 5 with
  | none => rw [hq] at h; cases h
  | some i =>
    rw [hq] at h
    simp only [Option.map_some, Option.some.injEq, Prod.mk.injEq] at h
    exact ⟨i, rfl, h.1, h.2.1, h.2.2⟩

/-- A row of bytes of one's own. -/
abbrev Own (w : World) (base : Nat) (v : Value) (bs : List UInt8) : Prop := w.ownsRow base 5 1 v bs.length (S bs)

theorem At.own {w : World} {base g n cap : Nat} {bs : List UInt8} (h : w.ownsRow base 5 1 (.slice (some ⟨g, 0, none⟩) n cap) n (S bs)) : At w (some ⟨g, 0, none⟩) bs := by
  intro j c hj
  rcases h.2 with ⟨e, _⟩ | ⟨g', cap', cur, e, _, hg, _, _, _, ht⟩
  · cases e
  · obtain ⟨rfl, _⟩ : g = g' ∧ cap = cap' := by simpa using e
    refine ⟨g, 0, rfl, ?_⟩
    rw [cell_of_row w g (0 + j) cur 5 _ hg, Nat.zero_add, ← Array.getElem?_toList]
    have h2 : (S bs)[j]? = some (.int .u8 (c.toNat : Int)) := by rw [S_get, hj]; rfl
    rw [← ht, List.getElem?_take] at h2
    split at h2
    · exact h2
    · cases h2
/-- A row that has bytes lies somewhere. -/
theorem Own.some {w : World} {base n : Nat} {v : Value} {xs : List Value} (h : w.ownsRow base 5 1 v n xs) (hn : 0 < n) : ∃ g cap, v = .slice (some ⟨g, 0, none⟩) n cap ∧ base ≤ g ∧ n ≤ cap := by
  rcases h.2 with ⟨_, e⟩ | ⟨g, cap, cur, rfl, hb, _, hc, _⟩
  · omega
  · exact ⟨g, cap, rfl, hb, hc⟩

/-- Bytes, wherever they lie, put behind bytes of one's own. -/
theorem append_bytes {w : World} {ops : Array Oper} {rest : List Oper} {o : Oper} {act : Act} {Q : Exit → Act → World → Prop} (hgd : o.guard = none) (s x : Operand)
    (ho : o.op = .call { callee := .builtin .append, args := #[s, x], argTypes := #[30, 30] }) (base : Nat) (v : Value) (n : Nat) (xs : List Value) (hs : act.eval s = v) (hown : w.ownsRow base 5 1 v n xs)
    (a : Option Addr) (bs : List UInt8) (cap : Nat) (hx : act.eval x = .slice a bs.length cap) (hcap : a = none → cap = 0) (hA : At w a bs) (hlen : n + bs.length ≤ 140737488355328) (hbase : base ≤ w.heap.size)
    (h : ∀ v' w', w'.ownsRow base 5 1 v' (n + bs.length) (xs ++ S bs) → w.grownBy w' v.ownBlock → (v = .slice none 0 0 ∨ v' ≠ .slice none 0 0) → wpList Try.prog ops Q rest (act.put o.dst v') w') : wpList Try.prog ops Q (o :: rest) act w := by
  obtain ⟨i0, hi, hz0, hz1, hz2⟩ := info5all
  cases a with
  | none =>
    obtain rfl := hcap rfl
    obtain rfl : bs = [] := by
      cases bs with
      | nil => rfl
      | cons c bs => obtain ⟨b, o', e, _⟩ := hA 0 c rfl; cases e
    refine wpList_append_own_none hgd s x 30 ho base 5 i0 1 Try.underlying30 hi v n xs hs hown hx (h v w (by simpa [S] using hown) ⟨rfl, rfl, rfl, Nat.le_refl _, fun _ _ _ => rfl⟩ ?_)
    by_cases hv : v = .slice none 0 0
    · exact .inl hv
    · exact .inr hv
  | some ad =>
    refine wpList_append_own _ hgd s x 30 ho base 5 i0 (.int .u8 0) 1 1 Try.underlying30 hi hz0 hz1 hz2 rfl (by decide) v n xs hs hown ad bs.length cap (S bs) hx (by rw [length_S, Nat.mul_one]) ?_ (one_S bs) (by unfold maxLen; omega) (by omega) hbase (fun v' w' h1 h2 h3 => h v' w' h1 h2 ?_)
    · intro j u hu
      rw [S_get] at hu
      cases hj : bs[j]? with
      | none => rw [hj] at hu; cases hu
      | some c =>
        rw [hj] at hu
        obtain ⟨b, o', e, hc⟩ := hA j c hj
        obtain rfl : ad = ⟨b, o', none⟩ := by simpa using e
        rw [Addr.add_mid, hc]
        exact hu
    · by_cases hv : v = .slice none 0 0
      · exact .inl hv
      · exact .inr (fun e => hv (h3.1 e).1)

theorem own_none (v : Value) : v.ownBlock = none ∨ v.ownBlock ≠ none := by cases v.ownBlock <;> simp
/-- Bytes as a string. -/
def Str (bs : List UInt8) : Value := .string ⟨bs.toArray⟩
theorem conv_at (w : World) (a : Option Addr) (bs : List UInt8) (cap : Nat) (h : At w a bs) : (convert 30 9 (.slice a bs.length cap)).run Try.prog w = .ok (.string ⟨bs.toArray⟩) w := by
  cases a with
  | none =>
    obtain rfl : bs = [] := by
      cases bs with
      | nil => rfl
      | cons c bs => obtain ⟨b, o', e, _⟩ := h 0 c rfl; cases e
    rw [run_convert_bytes_nil w 30 5 Try.underlying30 Try.underlying5 _ _ 9 Try.underlying9]; rfl
  | some ad =>
    refine run_convert_bytes_back w 30 9 5 ad cap bs Try.underlying30 Try.underlying5 Try.underlying9 (fun j hj => ?_)
    obtain ⟨b, o, e, hc⟩ := h j bs[j] (List.getElem?_eq_getElem hj)
    obtain rfl : ad = ⟨b, o, none⟩ := by simpa using e
    rw [Addr.add_mid]; exact hc

theorem At.ad {w : World} {a : Option Addr} {bs : List UInt8} (h : At w a bs) (hn : 0 < bs.length) : ∃ b o, a = some ⟨b, o, none⟩ := by
  obtain ⟨b, o, e, _⟩ := h 0 bs[0] (List.getElem?_eq_getElem hn)
  exact ⟨b, o, e⟩
end Go.Proofs.Ytplppnngmlljnaa

/- What a reader's calls tell of what is left, by definition; where a reader stands in memory. -/
namespace Go.Proofs.Ytplppnngmlljnaa
open Go.RowKit

namespace M
/-- A reader: the first refusal (0: none), and what is left. -/
structure St where
  e : Nat
  l : List UInt8
def uintR (most : Nat) (s : St) : Nat × St :=
  if s.e ≠ 0 then (0, s) else
  match scan 0 s.l with
  | .error e => (0, ⟨e, []⟩)
  | .ok (n, r) => if most < n then (0, ⟨3, []⟩) else (n, ⟨0, r⟩)
def takeR (n : Nat) (s : St) : List UInt8 × St :=
  if s.e ≠ 0 then ([], s) else if s.l.length < n then ([], ⟨21, []⟩) else (s.l.take n, ⟨0, s.l.drop n⟩)
def clamp (z : Int) : Nat := if z < 0 then 0 else if 8 < z then 8 else z.toNat
def atLeast0 (z : Int) : Nat := if z < 0 then 0 else z.toNat
def textR (most : Int) (s : St) : List UInt8 × St := takeR (uintR (atLeast0 most) s).1 (uintR (atLeast0 most) s).2
def fixedR (size : Int) (s : St) : Nat × St := (unfix (takeR (clamp size) s).1, (takeR (clamp size) s).2)
def endE (s : St) : Nat := if 0 < s.l.length then 22 else s.e

theorem uintR_ref {most : Nat} {s : St} (h : s.e ≠ 0) : uintR most s = (0, s) := by rw [uintR, if_pos h]
theorem uintR_err {most : Nat} {s : St} {e : Nat} (h : s.e = 0) (hs : scan 0 s.l = .error e) : uintR most s = (0, ⟨e, []⟩) := by rw [uintR, if_neg (by omega), hs]
theorem uintR_big {most : Nat} {s : St} {n : Nat} {r : List UInt8} (h : s.e = 0) (hs : scan 0 s.l = .ok (n, r)) (hm : most < n) : uintR most s = (0, ⟨3, []⟩) := by
  rw [uintR, if_neg (by omega), hs]; simp [hm]
theorem uintR_ok {most : Nat} {s : St} {n : Nat} {r : List UInt8} (h : s.e = 0) (hs : scan 0 s.l = .ok (n, r)) (hm : ¬ most < n) : uintR most s = (n, ⟨0, r⟩) := by
  rw [uintR, if_neg (by omega), hs]; simp [hm]
theorem uintR_lt (most : Nat) (s : St) : (uintR most s).1 < 18446744073709551616 ∧ (uintR most s).1 ≤ most := by
  rw [uintR]
  split
  · simp
  · cases hs : scan 0 s.l with
    | error e => simp
    | ok v =>
      obtain ⟨n, r⟩ := v
      simp only
      split
      · simp
      · exact ⟨(scan_one hs).2, by omega⟩
theorem takeR_ref {n : Nat} {s : St} (h : s.e ≠ 0) : takeR n s = ([], s) := by rw [takeR, if_pos h]
theorem takeR_short {n : Nat} {s : St} (h : s.e = 0) (hl : s.l.length < n) : takeR n s = ([], ⟨21, []⟩) := by rw [takeR, if_neg (by omega), if_pos hl]
theorem takeR_ok {n : Nat} {s : St} (h : s.e = 0) (hl : ¬ s.l.length < n) : takeR n s = (s.l.take n, ⟨0, s.l.drop n⟩) := by rw [takeR, if_neg (by omega), if_neg hl]
theorem clamp_le (z : Int) : clamp z ≤ 8 := by unfold clamp; split <;> (try split) <;> omega
theorem takeR_len (n : Nat) (s : St) : (takeR n s).1.length ≤ n := by
  rw [takeR]
  split
  · simp
  · split
    · simp
    · simp; omega
end M

/-- The cell of a struct that is known whole. -/
theorem cellOf {w : World} {p : Nat} {cs : Array Value} {t : TypeId} {fr : Nat × Nat} (h : w.heap[p]? = some (.cells cs t fr)) (j : Nat) : w.cell? ⟨p, j, none⟩ = cs[j]? := cell_of_row w p j cs t fr h

/-- Bytes that lie in a block below p. -/
structure Lies (w : World) (p : Nat) (a : Option Addr) (l : List UInt8) (cap : Nat) : Prop where
  at_ : At w a l
  room : l.length ≤ cap
  non : a = none → cap = 0
  low : ∀ ad, a = some ad → ad.spot = none ∧ ad.block < p
theorem Lies.nil (w : World) (p : Nat) : Lies w p none [] 0 := ⟨At.nil _ _, Nat.le_refl _, fun _ => rfl, fun _ h => by cases h⟩
theorem Lies.touch {w w' : World} {p q : Nat} {a : Option Addr} {l : List UInt8} {cap : Nat} (h : Lies w p a l cap) (hT : Touch (fun k => k = q) w w') (hq : p ≤ q) : Lies w' p a l cap :=
  ⟨h.at_.block (fun b o e hb => hT.block b hb (fun c => by have h2 : b < p := (h.low _ e).2; omega)), h.room, h.non, h.low⟩
theorem Lies.adds {w w' : World} {p : Nat} {a : Option Addr} {l : List UInt8} {cap : Nat} (h : Lies w p a l cap) (hT : Adds w w') : Lies w' p a l cap :=
  ⟨h.at_.adds hT, h.room, h.non, h.low⟩
/-- What is left behind n bytes. -/
theorem Lies.drop {w : World} {p : Nat} {a : Option Addr} {l : List UInt8} {cap : Nat} (h : Lies w p a l cap) (n : Nat) (hn : n ≤ l.length) :
    Lies w p (if cap = n then a else a.map (·.add n)) (l.drop n) (cap - n) := by
  refine ⟨?_, by rw [List.length_drop]; have := h.room; omega, ?_, ?_⟩
  · by_cases hc : cap = n
    · rw [if_pos hc]
      have : l.drop n = [] := List.drop_eq_nil_of_le (by have := h.room; omega)
      rw [this]; exact At.nil _ _
    · rw [if_neg hc]
      cases a with
      | none => exact absurd (h.non rfl) (by have := h.room; omega)
      | some ad =>
        obtain ⟨b, o, sp⟩ := ad
        obtain rfl : sp = none := (h.low _ rfl).1
        show At w (some (Addr.add ⟨b, o, none⟩ n)) _
        rw [Addr.add_mid]
        exact h.at_.suf n
  · intro e
    by_cases hc : cap = n
    · omega
    · rw [if_neg hc] at e
      cases a with
      | none => have := h.non rfl; omega
      | some ad => cases e
  · intro ad e
    by_cases hc : cap = n
    · rw [if_pos hc] at e; exact h.low ad e
    · rw [if_neg hc] at e
      cases a with
      | none => cases e
      | some ad' =>
        obtain ⟨b, o, sp⟩ := ad'
        obtain rfl : sp = none := (h.low _ rfl).1
        have e2 : Addr.add ⟨b, o, none⟩ n = ad := by simpa using e
        rw [Addr.add_mid] at e2
        subst e2
        exact ⟨rfl, (h.low _ rfl).2⟩

/-- A reader that Read made, in block p. -/
structure IsR (w : World) (p : Nat) (s : M.St) : Prop where
  box : ∃ a cap, w.heap[p]? = some (.cells #[.bool true, .int .i64 (s.e : Int), .slice a s.l.length cap] 114 (0, 0)) ∧ Lies w p a s.l cap
  good : s.e ≠ 0 → s.l = []
  len : s.l.length ≤ 1000000
  err : s.e ≤ 100
/-- A reader, whatever it is. -/
def RD (w : World) (v : Value) (s : M.St) : Prop :=
  (v = .pointer none ∧ s = ⟨1, []⟩) ∨ (∃ p, v = .pointer (some ⟨p, 0, none⟩) ∧ w.heap[p]? = some (.cells #[.bool false, .int .i64 0, .slice none 0 0] 114 (0, 0)) ∧ s = ⟨1, []⟩) ∨ (∃ p, v = .pointer (some ⟨p, 0, none⟩) ∧ IsR w p s)
/-- The reference's reader, in block p. -/
structure IsS (w : World) (p : Nat) (s : M.St) : Prop where
  box : ∃ a cap, w.heap[p]? = some (.cells #[.slice a s.l.length cap, .int .i64 (s.e : Int)] 89 (0, 0)) ∧ Lies w p a s.l cap
  good : s.e ≠ 0 → s.l = []
  len : s.l.length ≤ 1000000
  err : s.e ≤ 100
theorem RD.made {w : World} {v : Value} {s : M.St} (h : RD w v s) (h0 : s.e = 0) : ∃ p, v = .pointer (some ⟨p, 0, none⟩) ∧ IsR w p s := by
  rcases h with ⟨_, rfl⟩ | ⟨p, _, _, rfl⟩ | h
  · cases h0
  · cases h0
  · exact h
theorem RD.good {w : World} {v : Value} {s : M.St} (h : RD w v s) (h0 : s.e ≠ 0) : s.l = [] := by
  rcases h with ⟨_, rfl⟩ | ⟨p, _, _, rfl⟩ | ⟨p, _, h⟩
  · rfl
  · rfl
  · exact h.good h0
/-- What turns when a reader is called: its own block. -/
def Own1 (v : Value) (k : Nat) : Prop := v = .pointer (some ⟨k, 0, none⟩)
theorem IsR.set {w w' : World} {p : Nat} {s : M.St} {e : Nat} {l : List UInt8} {a : Option Addr} {cap : Nat} (h : IsR w p s) (hw : w' = w.setRow p #[.bool true, .int .i64 (e : Int), .slice a l.length cap]) (hL : Lies w p a l cap) (hg : e ≠ 0 → l = []) (hl : l.length ≤ 1000000) (he : e ≤ 100) :
    IsR w' p ⟨e, l⟩ ∧ Touch (Own1 (.pointer (some ⟨p, 0, none⟩))) w w' := by
  subst hw
  obtain ⟨a0, c0, hb, _⟩ := h.box
  have hT : Touch (fun k => k = p) w (w.setRow p #[.bool true, .int .i64 (e : Int), .slice a l.length cap]) := Touch.setRow (T := fun k => k = p) (Touch.refl _ w) (fun _ => rfl) _
  exact ⟨⟨⟨a, cap, setRow_heap w p _ _ 114 _ hb, hL.touch hT (Nat.le_refl _)⟩, hg, hl, he⟩, hT.mono (fun i _ e => by subst e; rfl)⟩
theorem IsS.set {w w' : World} {p : Nat} {s : M.St} {e : Nat} {l : List UInt8} {a : Option Addr} {cap : Nat} (h : IsS w p s) (hw : w' = w.setRow p #[.slice a l.length cap, .int .i64 (e : Int)]) (hL : Lies w p a l cap) (hg : e ≠ 0 → l = []) (hl : l.length ≤ 1000000) (he : e ≤ 100) :
    IsS w' p ⟨e, l⟩ ∧ Touch (Own1 (.pointer (some ⟨p, 0, none⟩))) w w' := by
  subst hw
  obtain ⟨a0, c0, hb, _⟩ := h.box
  have hT : Touch (fun k => k = p) w (w.setRow p #[.slice a l.length cap, .int .i64 (e : Int)]) := Touch.setRow (T := fun k => k = p) (Touch.refl _ w) (fun _ => rfl) _
  exact ⟨⟨⟨a, cap, setRow_heap w p _ _ 89 _ hb, hL.touch hT (Nat.le_refl _)⟩, hg, hl, he⟩, hT.mono (fun i _ e => by subst e; rfl)⟩
end Go.Proofs.Ytplppnngmlljnaa

/- The leaves: a float's bits, a size within bounds, what a reader tells of itself, a refusal. -/
namespace Go.Proofs.Ytplppnngmlljnaa
open Go.RowKit

set_option maxRecDepth 100000 in
set_option maxHeartbeats 400000 in
theorem within_any (z : Int) (w : World) : Calls Try.prog 77 #[.int .i64 z] w fun e w' => e = .returned (.int .i64 (M.clamp z : Int)) ∧ w' = w := by
  by_cases h : z < 0
  · rw [M.clamp, if_pos h]
    go_enter Try.func77, Try.ntmps77
    go_wp2
    all_goals (first | omega | (go_ret; exact ⟨rfl, rfl⟩))
  · by_cases h2 : 8 < z
    · rw [M.clamp, if_neg h, if_pos h2]
      go_enter Try.func77, Try.ntmps77
      go_wp2
      all_goals (first | omega | (go_ret; exact ⟨rfl, rfl⟩))
    · rw [M.clamp, if_neg h, if_neg h2, Int.toNat_of_nonneg (by omega)]
      go_enter Try.func77, Try.ntmps77
      go_wp2
      all_goals (first | omega | (go_ret; exact ⟨rfl, rfl⟩))
set_option maxRecDepth 100000 in
set_option maxHeartbeats 400000 in
theorem err_nil (w : World) : Calls Try.prog 79 #[.pointer none] w fun e w' => e = .returned (.int .i64 1) ∧ w' = w := by
  go_enter Try.func79, Try.ntmps79
  go_wp2
  go_ret
  exact ⟨rfl, rfl⟩
set_option maxRecDepth 100000 in
set_option maxHeartbeats 400000 in
theorem err_no (p : Nat) (w : World) (c0 : w.cell? ⟨p, 0, none⟩ = some (.bool false)) : Calls Try.prog 79 #[.pointer (some ⟨p, 0, none⟩)] w fun e w' => e = .returned (.int .i64 1) ∧ w' = w := by
  go_enter Try.func79, Try.ntmps79
  go_wp2
  go_ret
  exact ⟨rfl, rfl⟩
set_option maxRecDepth 100000 in
set_option maxHeartbeats 400000 in
theorem err_yes (p : Nat) (n : Int) (w : World) (c0 : w.cell? ⟨p, 0, none⟩ = some (.bool true)) (c1 : w.cell? ⟨p, 1, none⟩ = some (.int .i64 n)) : Calls Try.prog 79 #[.pointer (some ⟨p, 0, none⟩)] w fun e w' => e = .returned (.int .i64 n) ∧ w' = w := by
  go_enter Try.func79, Try.ntmps79
  go_wp2
  go_ret
  exact ⟨rfl, rfl⟩
set_option maxRecDepth 100000 in
theorem err_any {v : Value} {s : M.St} {w : World} (h : RD w v s) : Calls Try.prog 79 #[v] w fun e w' => e = .returned (.int .i64 (s.e : Int)) ∧ w' = w := by
  rcases h with ⟨rfl, rfl⟩ | ⟨p, rfl, hb, rfl⟩ | ⟨p, rfl, h⟩
  · exact err_nil w
  · exact err_no p w (cellOf hb 0)
  · obtain ⟨a, cap, hb, _⟩ := h.box
    exact err_yes p _ w (cellOf hb 0) (cellOf hb 1)
set_option maxRecDepth 100000 in
set_option maxHeartbeats 400000 in
theorem left_nil (w : World) : Calls Try.prog 78 #[.pointer none] w fun e w' => e = .returned (.int .i64 0) ∧ w' = w := by
  go_enter Try.func78, Try.ntmps78
  go_wp2
  go_ret
  exact ⟨rfl, rfl⟩
set_option maxRecDepth 100000 in
set_option maxHeartbeats 400000 in
theorem left_yes (p : Nat) (a : Option Addr) (n cap : Nat) (w : World) (c2 : w.cell? ⟨p, 2, none⟩ = some (.slice a n cap)) : Calls Try.prog 78 #[.pointer (some ⟨p, 0, none⟩)] w fun e w' => e = .returned (.int .i64 (n : Int)) ∧ w' = w := by
  go_enter Try.func78, Try.ntmps78
  go_wp2
  go_ret
  exact ⟨rfl, rfl⟩
set_option maxRecDepth 100000 in
theorem left_any {v : Value} {s : M.St} {w : World} (h : RD w v s) : Calls Try.prog 78 #[v] w fun e w' => e = .returned (.int .i64 (s.l.length : Int)) ∧ w' = w := by
  rcases h with ⟨rfl, rfl⟩ | ⟨p, rfl, hb, rfl⟩ | ⟨p, rfl, h⟩
  · exact left_nil w
  · exact left_yes p none 0 0 w (cellOf hb 2)
  · obtain ⟨a, cap, hb, _⟩ := h.box
    exact left_yes p _ _ _ w (cellOf hb 2)
set_option maxRecDepth 100000 in
set_option maxHeartbeats 400000 in
theorem end_any {v : Value} {s : M.St} {w : World} (h : RD w v s) : Calls Try.prog 49 #[v] w fun e w' => e = .returned (.int .i64 (M.endE s : Int)) ∧ w' = w := by
  have H1 := hid (left_any h)
  have H2 := hid (err_any h)
  clear h
  by_cases hl : 0 < s.l.length
  · rw [M.endE, if_pos hl]
    go_enter Try.func49, Try.ntmps49
    go_wp2_with (first | (go_at_call 78; refine H1.out.mono ?_; rintro e w' ⟨rfl, rfl⟩) | (go_at_call 79; refine H2.out.mono ?_; rintro e w' ⟨rfl, rfl⟩))
    go_ret
    exact ⟨rfl, rfl⟩
  · rw [M.endE, if_neg hl]
    go_enter Try.func49, Try.ntmps49
    go_wp2_with (first | (go_at_call 78; refine H1.out.mono ?_; rintro e w' ⟨rfl, rfl⟩) | (go_at_call 79; refine H2.out.mono ?_; rintro e w' ⟨rfl, rfl⟩))
    go_ret
    exact ⟨rfl, rfl⟩
set_option maxRecDepth 100000 in
set_option maxHeartbeats 400000 in
theorem refuse_box (p : Nat) (x0 x1 x2 : Value) (n : Int) (w : World) (hb : w.heap[p]? = some (.cells #[x0, x1, x2] 114 (0, 0))) :
    Calls Try.prog 91 #[.pointer (some ⟨p, 0, none⟩), .int .i64 n] w fun e w' => e = .returned (.tuple #[]) ∧ w' = w.setRow p #[x0, .int .i64 n, .slice none 0 0] := by
  have c1 : w.cell? ⟨p, 1, none⟩ = some x1 := cellOf hb 1
  have c2 : w.cell? ⟨p, 2, none⟩ = some x2 := cellOf hb 2
  have f1 : w.frozen? ⟨p, 1, none⟩ = false := frozen_of_row w p 1 _ 114 hb
  have f2 : w.frozen? ⟨p, 2, none⟩ = false := frozen_of_row w p 2 _ 114 hb
  have e1 : w.setCell ⟨p, 1, none⟩ (.int .i64 n) = w.setRow p #[x0, .int .i64 n, x2] := setCell_eq_setRow w p 1 _ 114 _ _ hb
  have E2 := hid (show (w.setCell ⟨p, 1, none⟩ (.int .i64 n)).setCell ⟨p, 2, none⟩ (.slice none 0 0) = w.setRow p #[x0, .int .i64 n, .slice none 0 0] by
    rw [e1, setCell_eq_setRow _ p 2 _ 114 _ _ (setRow_heap w p _ _ 114 _ hb), setRow_setRow]; rfl)
  clear e1 hb
  go_enter Try.func91, Try.ntmps91
  go_wp2
  go_end0
  exact ⟨rfl, E2.out⟩
end Go.Proofs.Ytplppnngmlljnaa

/- Bytes that are taken, by a reader and by the reference's. -/
namespace Go.Proofs.Ytplppnngmlljnaa
open Go.RowKit

set_option maxHeartbeats 400000 in
theorem take_ref (v : Value) (n : Int) (e : Nat) (w : World) (he : e ≠ 0) (H : Hid (Calls Try.prog 79 #[v] w fun r w' => r = .returned (.int .i64 (e : Int)) ∧ w' = w)) :
    Calls Try.prog 76 #[v, .int .i64 n] w fun r w' => r = .returned (.slice none 0 0) ∧ w' = w := by
  have h1 : ¬ ((e : Int) = 0) := by omega
  clear he
  go_enter Try.func76, Try.ntmps76
  go_wp2_with (go_at_call 79; refine H.out.mono ?_; rintro e w' ⟨rfl, rfl⟩)
  go_ret
  exact ⟨rfl, rfl⟩
set_option maxHeartbeats 400000 in
theorem take_short (p : Nat) (a : Option Addr) (len cap n : Nat) (w : World) (hb : w.heap[p]? = some (.cells #[.bool true, .int .i64 0, .slice a len cap] 114 (0, 0))) (hn : len < n) :
    Calls Try.prog 76 #[.pointer (some ⟨p, 0, none⟩), .int .i64 (n : Int)] w fun r w' => r = .returned (.slice none 0 0) ∧ w' = w.setRow p #[.bool true, .int .i64 21, .slice none 0 0] := by
  have H := hid (err_yes p 0 w (cellOf hb 0) (cellOf hb 1))
  have HR := hid (refuse_box p _ _ _ 21 w hb)
  have c2 : w.cell? ⟨p, 2, none⟩ = some (.slice a len cap) := cellOf hb 2
  have hn' : (len : Int) < (n : Int) := by omega
  clear hb hn
  go_enter Try.func76, Try.ntmps76
  go_wp2_with (first | (go_at_call 79; refine H.out.mono ?_; rintro e w' ⟨rfl, rfl⟩) | (go_at_call 91; refine HR.out.mono ?_; rintro e w2 ⟨rfl, rfl⟩))
  go_ret
  exact ⟨rfl, rfl⟩
set_option maxHeartbeats 400000 in
theorem take_ok (p : Nat) (a : Option Addr) (len cap n : Nat) (w : World) (hb : w.heap[p]? = some (.cells #[.bool true, .int .i64 0, .slice a len cap] 114 (0, 0))) (hn : n ≤ len) (hc : len ≤ cap) :
    Calls Try.prog 76 #[.pointer (some ⟨p, 0, none⟩), .int .i64 (n : Int)] w fun r w' => r = .returned (.slice a n cap) ∧ w' = w.setRow p #[.bool true, .int .i64 0, .slice (if cap = n then a else a.map (·.add n)) (len - n) (cap - n)] := by
  have H := hid (err_yes p 0 w (cellOf hb 0) (cellOf hb 1))
  have c2 : w.cell? ⟨p, 2, none⟩ = some (.slice a len cap) := cellOf hb 2
  have f2 : w.frozen? ⟨p, 2, none⟩ = false := frozen_of_row w p 2 _ 114 hb
  have E := hid (fun u => show w.setCell ⟨p, 2, none⟩ u = w.setRow p #[.bool true, .int .i64 0, u] from setCell_eq_setRow w p 2 _ 114 _ _ hb)
  have hn' : (n : Int) ≤ (len : Int) := by omega
  have hn2 : (n : Int) ≤ (cap : Int) := by omega
  clear hb hn hc
  go_enter Try.func76, Try.ntmps76
  go_wp2_with (first | (go_at_call 79; refine H.out.mono ?_; rintro e w' ⟨rfl, rfl⟩))
  all_goals (go_ret; exact ⟨rfl, E.out _⟩)
/-- What is taken. -/
def PTake (w : World) (v : Value) (n : Nat) (s : M.St) (e : Ending) (w' : World) : Prop :=
  ∃ a cap, e = .returned (.slice a (M.takeR n s).1.length cap) ∧ At w' a (M.takeR n s).1 ∧ RD w' v (M.takeR n s).2 ∧ Touch (Own1 v) w w'
theorem take_any {v : Value} {s : M.St} {w : World} (n : Nat) (h : RD w v s) : Calls Try.prog 76 #[v, .int .i64 (n : Int)] w (PTake w v n s) := by
  by_cases he : s.e = 0
  · obtain ⟨p, rfl, hR⟩ := h.made he
    obtain ⟨a, cap, hb, hL⟩ := hR.box
    rw [he] at hb
    by_cases hn : s.l.length < n
    · refine (take_short p a _ cap n w hb hn).mono ?_
      rintro e w' ⟨rfl, hw⟩
      obtain ⟨h1, h2⟩ := hR.set (e := 21) (l := []) hw (Lies.nil w p) (fun _ => rfl) (by simp) (by omega)
      rw [PTake, M.takeR_short he hn]
      exact ⟨none, 0, rfl, At.nil _ _, .inr (.inr ⟨p, rfl, h1⟩), h2⟩
    · refine (take_ok p a _ cap n w hb (by omega) hL.room).mono ?_
      rintro e w' ⟨rfl, hw⟩
      rw [← List.length_drop] at hw
      obtain ⟨h1, h2⟩ := hR.set (e := 0) (l := s.l.drop n) hw (hL.drop n (by omega)) (fun h => absurd rfl h) (by rw [List.length_drop]; have := hR.len; omega) (by omega)
      rw [PTake, M.takeR_ok he hn]
      have hlen : (s.l.take n).length = n := by rw [List.length_take]; omega
      refine ⟨a, cap, by rw [hlen], (hL.at_.pre n).block (fun b o e hb => ?_), .inr (.inr ⟨p, rfl, h1⟩), h2⟩
      refine h2.block b hb (fun c => ?_)
      have h3 : b < p := (hL.low _ e).2
      simp only [Own1, Value.pointer.injEq, Option.some.injEq, Addr.mk.injEq] at c
      omega
  · refine (take_ref v n s.e w he (err_any h)).mono ?_
    rintro e w' ⟨rfl, rfl⟩
    rw [PTake, M.takeR_ref he]
    exact ⟨none, 0, rfl, At.nil _ _, h, Touch.refl _ _⟩

end Go.Proofs.Ytplppnngmlljnaa

/- A reader's Uint. -/
namespace Go.Proofs.Ytplppnngmlljnaa
open Go.RowKit

/-- What Uint does to a reader that has not refused. -/
def PU (p : Nat) (a : Option Addr) (l : List UInt8) (cap most : Nat) (w : World) (r : Ending) (w' : World) : Prop :=
  r = .returned (.int .u64 ((M.uintR most ⟨0, l⟩).1 : Int)) ∧
  ((∃ e : Nat, e ≠ 0 ∧ e ≤ 100 ∧ (M.uintR most ⟨0, l⟩).2 = ⟨e, []⟩ ∧ w' = w.setRow p #[.bool true, .int .i64 (e : Int), .slice none 0 0]) ∨
   ∃ k, k ≤ l.length ∧ (M.uintR most ⟨0, l⟩).2 = ⟨0, l.drop k⟩ ∧ w' = w.setRow p #[.bool true, .int .i64 0, .slice (if cap = k then a else a.map (·.add k)) (l.length - k) (cap - k)])

/-- What holds at the jump. -/
def JU (p : Nat) (l : List UInt8) (most : Nat) (w : World) (a' : Act) (w' : World) : Prop :=
  ∃ e : Nat, (e ≠ 0 ∧ e ≤ 100 ∧ M.uintR most ⟨0, l⟩ = (0, ⟨e, []⟩)) ∧ w' = w ∧ ∃ (u1 u2 u3 u4 u5 u7 u8 u9 u10 u11 u12 u13 u14 u15 u16 u17 u18 u19 u20 u21 u22 u23 u24 u25 u26 u27 u28 u29 u30 u31 u32 u33 u34 u35 u36 u37 u38 u39 u40 u41 u42 u43 u44 u45 u46 u47 u48 u49 u50 u51 u52 u53 u54 u55 u56 u57 u58 u59 u60 u61 u62 u63 : Value), a' = { tmps := #[.pointer (some ⟨p, 0, none⟩), u1, u2, u3, u4, u5, .int .i64 (e : Int), u7, u8, u9, u10, u11, u12, u13, u14, u15, u16, u17, u18, u19, u20, u21, u22, u23, u24, u25, u26, u27, u28, u29, u30, u31, u32, u33, u34, u35, u36, u37, u38, u39, u40, u41, u42, u43, u44, u45, u46, u47, u48, u49, u50, u51, u52, u53, u54, u55, u56, u57, u58, u59, u60, u61, u62, u63], defers := [] }

set_option maxRecDepth 100000 in
theorem or_add (m x i : Nat) (h : m < 2 ^ i) : m ||| (x * 2 ^ i) = m + x * 2 ^ i := by
  rw [Nat.or_comm, Nat.mul_comm, Nat.add_comm, Nat.two_pow_add_eq_or_of_lt h]

set_option maxRecDepth 100000 in
theorem grow_lt {m x k : Nat} (h : m < 2 ^ (7 * k)) : m + x % 128 * 2 ^ (7 * k) < 2 ^ (7 * (k + 1)) := by
  rw [show 7 * (k + 1) = 7 * k + 7 by omega, Nat.pow_add]
  generalize 2 ^ (7 * k) = y at *
  have h1 : x % 128 < 128 := Nat.mod_lt _ (by decide)
  have h2 : (x % 128 + 1) * y ≤ 128 * y := Nat.mul_le_mul_right _ h1
  rw [Nat.add_mul] at h2
  rw [show (2 : Nat) ^ 7 = 128 from rfl, Nat.mul_comm y 128]
  omega
set_option maxRecDepth 100000 in
theorem or_wrap {k m x m' : Nat} (h1 : k ≤ 9) (h2 : m < 2 ^ (7 * k)) (h3 : x < 256) (h4 : k = 9 → x ≤ 1) (hm : m' = m + x % 128 * 2 ^ (7 * k)) : bits .or .u64 (m : Int) (IntKind.u64.wrap ((x : Int) % 128 * 2 ^ (7 * k))) = (m' : Int) := by
  have hp : (2 : Nat) ^ (7 * k) ≤ 2 ^ 63 := Nat.pow_le_pow_right (by decide) (by omega)
  have hlt : x % 128 * 2 ^ (7 * k) < 18446744073709551616 := by
    by_cases h9 : k = 9
    · subst h9
      have := h4 rfl
      have : x % 128 ≤ 1 := by omega
      have := Nat.mul_le_mul_right (2 ^ 63) this
      omega
    · have hp : (2 : Nat) ^ (7 * k) ≤ 2 ^ 56 := Nat.pow_le_pow_right (by decide) (by omega)
      have := Nat.mul_le_mul (show x % 128 ≤ 127 by omega) hp
      omega
  have e : ((x : Int) % 128 * 2 ^ (7 * k)) = ((x % 128 * 2 ^ (7 * k) : Nat) : Int) := by simp
  rw [e, IntKind.wrap_u64, show ((x % 128 * 2 ^ (7 * k) : Nat) : Int) % 18446744073709551616 = ((x % 128 * 2 ^ (7 * k) : Nat) : Int) by omega, bits_or_u64_nat _ _ (by omega) hlt, or_add _ _ _ h2, hm]

set_option maxRecDepth 100000 in
set_option maxHeartbeats 1000000 in
theorem uint_box (p : Nat) (a : Option Addr) (l : List UInt8) (cap most : Nat) (w : World) (hb : w.heap[p]? = some (.cells #[.bool true, .int .i64 0, .slice a l.length cap] 114 (0, 0))) (hA : At w a l) (hc : l.length ≤ cap) (hl : l.length ≤ 1000000) :
    Calls Try.prog 75 #[.pointer (some ⟨p, 0, none⟩), .int .u64 (most : Int)] w (PU p a l cap most w) := by
  have H := hid (err_yes p 0 w (cellOf hb 0) (cellOf hb 1))
  have HR := hid (fun e : Nat => refuse_box p _ _ _ (e : Int) w hb)
  have c2 : w.cell? ⟨p, 2, none⟩ = some (.slice a l.length cap) := cellOf hb 2
  have f2 : w.frozen? ⟨p, 2, none⟩ = false := frozen_of_row w p 2 _ 114 hb
  have E := hid (fun u => show w.setCell ⟨p, 2, none⟩ u = w.setRow p #[.bool true, .int .i64 0, u] from setCell_eq_setRow w p 2 _ 114 _ _ hb)
  have HA := hid hA
  clear hb hA
  go_enter Try.func75, Try.ntmps75
  go_wp2
  refine wp_scope_jumps 0 (JU p l most w) (fun _ _ => 0) rfl ?_ ?_
  · go_wp2_with (first | (go_at_call 79; refine H.out.mono ?_; rintro e w' ⟨rfl, rfl⟩))
    go_loopw [5, 6, 17] (fun x5 x6 x17 wr => ∃ k m : Nat, k ≤ l.length ∧ Hid (k ≤ 9 ∧ m < 2 ^ (7 * k) ∧ M.plus m k (M.scan k (l.drop k)) = M.scan 0 l) ∧ x5 = .int .u64 (m : Int) ∧ x6 = .int .i64 21 ∧ x17 = .int .i64 (k : Int) ∧ wr = w') (fun _ _ x _ => l.length - (intOf x).toNat)
    case atStart => exact ⟨0, 0, by omega, ⟨by omega, by simp, M.plus_zero _⟩, rfl, rfl, rfl, rfl⟩
    case round =>
      obtain ⟨k, m, hk, HI, rfl, rfl, rfl, rfl⟩ := hrel
      by_cases hlt : k < l.length
      · obtain ⟨c, hcc⟩ : ∃ c, l[k]? = some c := ⟨l[k], List.getElem?_eq_getElem hlt⟩
        obtain ⟨b, o, rfl, hcell⟩ := HA.out k c hcc
        have hdrop : l.drop k = c :: l.drop (k + 1) := by rw [List.drop_eq_getElem_cons hlt]; rw [List.getElem?_eq_getElem hlt] at hcc; simp at hcc; rw [hcc]
        have hc8 := c.toNat_lt
        by_cases hbad : (k = 9 ∧ 1 < c.toNat) ∨ (0 < k ∧ c.toNat = 0)
        · have HS := hid (show M.uintR most ⟨0, l⟩ = (0, ⟨22, []⟩) from M.uintR_err rfl (show M.scan 0 l = .error 22 by rw [← HI.out.2.2, hdrop]; exact M.plus_bad m k c _ hbad))
          by_cases h9 : k = 9
          · subst h9
            have q0 : (decide (1 < (c.toNat : Int)) || ((c.toNat : Int) == 0)) = true := by simp; omega
            clear hbad hdrop hc8
            go_wp2
            all_goals (go_step3; exact ⟨rfl, 22, ⟨by omega, by omega, HS.out⟩, rfl, ⟨_, _, _, _, _, _, _, _, _, _, _, _, _, _, _, _, _, _, _, _, _, _, _, _, _, _, _, _, _, _, _, _, _, _, _, _, _, _, _, _, _, _, _, _, _, _, _, _, _, _, _, _, _, _, _, _, _, _, _, _, _, _, rfl⟩⟩)
          · have h9' : ¬ ((k : Int) = 9) := by omega
            have hk0 : (0 : Int) < (k : Int) := by omega
            have q0 : ((c.toNat : Int) == 0) = true := by simp; omega
            clear hbad hdrop hc8
            go_wp2
            all_goals (go_step3; exact ⟨rfl, 22, ⟨by omega, by omega, HS.out⟩, rfl, ⟨_, _, _, _, _, _, _, _, _, _, _, _, _, _, _, _, _, _, _, _, _, _, _, _, _, _, _, _, _, _, _, _, _, _, _, _, _, _, _, _, _, _, _, _, _, _, _, _, _, _, _, _, _, _, _, _, _, _, _, _, _, _, rfl⟩⟩)
        · obtain ⟨hI1, hI2, hI3⟩ := HI.out
          obtain ⟨m', hm'⟩ : ∃ m', m' = m + c.toNat % 128 * 2 ^ (7 * k) := ⟨_, rfl⟩
          have hor : bits .or .u64 (m : Int) (IntKind.u64.wrap ((c.toNat : Int) % 128 * 2 ^ (7 * k))) = (m' : Int) := or_wrap hI1 hI2 hc8 (by omega) hm'
          by_cases h128 : 128 ≤ c.toNat
          · have h9 : k ≠ 9 := by omega
            have h9' : ¬ ((k : Int) = 9) := by omega
            have h128' : (128 : Int) ≤ (c.toNat : Int) := by omega
            have q0 : ((c.toNat : Int) == 0) = false := by simp; omega
            have hk9 : k < 9 := by omega
            have HN := hid (show k + 1 ≤ 9 ∧ m' < 2 ^ (7 * (k + 1)) ∧ M.plus m' (k + 1) (M.scan (k + 1) (l.drop (k + 1))) = M.scan 0 l from
              ⟨by omega, by rw [hm']; exact grow_lt hI2, by rw [hm', ← M.plus_more m k c _ hbad h128, ← hdrop]; exact hI3⟩)
            clear hbad hdrop hm' hI1 hI2 hI3 HI
            go_wp2
            all_goals (go_roundw)
            all_goals first
              | exact ⟨k + 1, m', by omega, HN, rfl, rfl, by go_num, by first | rfl | trivial⟩
              | (simp [intOf]; omega)
          · have HS := hid (show M.scan 0 l = .ok (m', l.drop (k + 1)) by rw [hm', ← M.plus_last m k c _ hbad h128, ← hdrop]; exact hI3.symm)
            have h128' : ¬ ((128 : Int) ≤ (c.toNat : Int)) := by omega
            have HE := hid (fun (hle : ¬ most < m') => M.uintR_ok (s := ⟨0, l⟩) rfl HS.out hle)
            have HU := hid (fun (hbig : most < m') => M.uintR_big (s := ⟨0, l⟩) rfl HS.out hbig)
            clear HS
            by_cases h9 : k = 9
            · subst h9
              have hc1 : c.toNat = 1 := by omega
              clear hbad hdrop hm' hI1 hI2 hI3 HI h128
              rw [hc1] at hor hcell h128'
              simp [IntKind.wrap_u64] at hor
              go_wp2
              all_goals first
                | (go_step3; exact ⟨rfl, 3, ⟨by omega, by omega, HU.out (by omega)⟩, rfl, ⟨_, _, _, _, _, _, _, _, _, _, _, _, _, _, _, _, _, _, _, _, _, _, _, _, _, _, _, _, _, _, _, _, _, _, _, _, _, _, _, _, _, _, _, _, _, _, _, _, _, _, _, _, _, _, _, _, _, _, _, _, _, _, rfl⟩⟩)
                | (simp only [Exit.jump]; go_ret; refine ⟨?_, .inr ⟨10, by omega, ?_, ?_⟩⟩ <;> first | (rw [HE.out (by omega)]; rfl) | (rw [HE.out (by omega)]) | (rw [E.out]; simp; done) | (rw [E.out, if_neg (by omega)]; simp [Addr.add_mid]; done))
            · have h9' : ¬ ((k : Int) = 9) := by omega
              by_cases hz : c.toNat = 0
              · have hk0 : ¬ 0 < k := by omega
                clear hbad hdrop hm' hI1 hI2 hI3 HI h128 hz
                go_wp2
                all_goals first
                  | (go_step3; exact ⟨rfl, 3, ⟨by omega, by omega, HU.out (by omega)⟩, rfl, ⟨_, _, _, _, _, _, _, _, _, _, _, _, _, _, _, _, _, _, _, _, _, _, _, _, _, _, _, _, _, _, _, _, _, _, _, _, _, _, _, _, _, _, _, _, _, _, _, _, _, _, _, _, _, _, _, _, _, _, _, _, _, _, rfl⟩⟩)
                  | (simp only [Exit.jump]; go_ret; refine ⟨?_, .inr ⟨k + 1, by omega, ?_, ?_⟩⟩ <;> first | (rw [HE.out (by omega)]; rfl) | (rw [HE.out (by omega)]) | (rw [E.out]; simp; done) | (rw [E.out, if_neg (by omega)]; simp [Addr.add_mid]; done))
              · have q0 : ((c.toNat : Int) == 0) = false := by simp; omega
                have hk9 : k < 9 := by omega
                clear hbad hdrop hm' hI1 hI2 hI3 HI h128 hz
                go_wp2
                all_goals first
                  | (go_step3; exact ⟨rfl, 3, ⟨by omega, by omega, HU.out (by omega)⟩, rfl, ⟨_, _, _, _, _, _, _, _, _, _, _, _, _, _, _, _, _, _, _, _, _, _, _, _, _, _, _, _, _, _, _, _, _, _, _, _, _, _, _, _, _, _, _, _, _, _, _, _, _, _, _, _, _, _, _, _, _, _, _, _, _, _, rfl⟩⟩)
                  | (simp only [Exit.jump]; go_ret; refine ⟨?_, .inr ⟨k + 1, by omega, ?_, ?_⟩⟩ <;> first | (rw [HE.out (by omega)]; rfl) | (rw [HE.out (by omega)]) | (rw [E.out]; simp; done) | (rw [E.out, if_neg (by omega)]; simp [Addr.add_mid]; done))
      · obtain rfl : k = l.length := by omega
        have HU := hid (M.uintR_err (most := most) (s := ⟨0, l⟩) (e := 21) rfl (by rw [← HI.out.2.2, List.drop_length]; exact M.plus_nil _ _))
        clear HI
        go_wp2
        go_step3
        go_wp2_with (first | (go_at_call 91; refine (HR.out 21).mono ?_; rintro e' w2 ⟨rfl, rfl⟩))
        simp only [Exit.jump]
        go_ret
        refine ⟨?_, .inl ⟨21, by omega, by omega, ?_, rfl⟩⟩
        · rw [HU.out]; rfl
        · rw [HU.out]
  · rintro a' w' ⟨e, he, rfl, u1, u2, u3, u4, u5, u7, u8, u9, u10, u11, u12, u13, u14, u15, u16, u17, u18, u19, u20, u21, u22, u23, u24, u25, u26, u27, u28, u29, u30, u31, u32, u33, u34, u35, u36, u37, u38, u39, u40, u41, u42, u43, u44, u45, u46, u47, u48, u49, u50, u51, u52, u53, u54, u55, u56, u57, u58, u59, u60, u61, u62, u63, rfl⟩
    go_wp2_with (first | (go_at_call 91; refine (HR.out e).mono ?_; rintro e' w2 ⟨rfl, rfl⟩))
    simp only [Exit.jump]
    go_ret
    refine ⟨?_, .inl ⟨e, he.1, he.2.1, ?_, rfl⟩⟩
    · rw [he.2.2]; rfl
    · rw [he.2.2]
set_option maxRecDepth 100000 in
set_option maxHeartbeats 400000 in
theorem uint_ref (v : Value) (n : Int) (e : Nat) (w : World) (he : e ≠ 0) (H : Hid (Calls Try.prog 79 #[v] w fun r w' => r = .returned (.int .i64 (e : Int)) ∧ w' = w)) :
    Calls Try.prog 75 #[v, .int .u64 n] w fun r w' => r = .returned (.int .u64 0) ∧ w' = w := by
  have h1 : ¬ ((e : Int) = 0) := by omega
  clear he
  go_enter Try.func75, Try.ntmps75
  go_wp2
  go_step3
  go_wp2_with (go_at_call 79; refine H.out.mono ?_; rintro e w' ⟨rfl, rfl⟩)
  simp only [Exit.noGoto]
  go_ret
  exact ⟨rfl, rfl⟩
/-- What a reader's call tells, and what it turns. -/
def PR (w : World) (v x : Value) (s : M.St) (e : Ending) (w' : World) : Prop := e = .returned x ∧ RD w' v s ∧ Touch (Own1 v) w w'
set_option maxRecDepth 100000 in
theorem uint_any {v : Value} {s : M.St} {w : World} (most : Nat) (h : RD w v s) : Calls Try.prog 75 #[v, .int .u64 (most : Int)] w (PR w v (.int .u64 ((M.uintR most s).1 : Int)) (M.uintR most s).2) := by
  by_cases he : s.e = 0
  · obtain ⟨p, rfl, hR⟩ := h.made he
    obtain ⟨a, cap, hb, hL⟩ := hR.box
    have hs : s = ⟨0, s.l⟩ := by cases s; simp at he; rw [he]
    rw [he] at hb
    refine (uint_box p a s.l cap most w hb hL.at_ hL.room hR.len).mono ?_
    rintro e w' ⟨rfl, h2⟩
    rw [← hs] at h2
    rw [← hs]
    rcases h2 with ⟨e, h0, h1, h2, hw⟩ | ⟨k, hk, h2, hw⟩
    · obtain ⟨h3, h4⟩ := hR.set (e := e) (l := []) hw (Lies.nil w p) (fun _ => rfl) (by simp) h1
      rw [h2]
      exact ⟨rfl, .inr (.inr ⟨p, rfl, h3⟩), h4⟩
    · rw [← List.length_drop] at hw
      obtain ⟨h3, h4⟩ := hR.set (e := 0) (l := s.l.drop k) hw (hL.drop k hk) (fun h => absurd rfl h) (by rw [List.length_drop]; have := hR.len; omega) (by omega)
      rw [h2]
      exact ⟨rfl, .inr (.inr ⟨p, rfl, h3⟩), h4⟩
  · refine (uint_ref v most s.e w he (err_any h)).mono ?_
    rintro e w' ⟨rfl, rfl⟩
    rw [M.uintR_ref he]
    exact ⟨rfl, h, Touch.refl _ _⟩
end Go.Proofs.Ytplppnngmlljnaa

/- The reference's Uint. -/
namespace Go.Proofs.Ytplppnngmlljnaa
open Go.RowKit

end Go.Proofs.Ytplppnngmlljnaa

/- Fixed, Byte, Int, Text and Float, of a reader and of the reference's. -/
namespace Go.Proofs.Ytplppnngmlljnaa
open Go.RowKit

set_option maxRecDepth 100000 in
theorem take_next {bs : List UInt8} {k : Nat} {c : UInt8} (h : bs[k]? = some c) : bs.take (k + 1) = bs.take k ++ [c] := by
  rw [List.take_add_one, h]; rfl
set_option maxRecDepth 100000 in
theorem unfix_step {t : List UInt8} {k : Nat} {c : UInt8} (h : t[k]? = some c) (h8 : t.length ≤ 8) :
    M.unfix (t.take (k + 1)) = M.unfix (t.take k) * 256 + c.toNat ∧ M.unfix (t.take k) * 256 < 18446744073709551616 ∧ M.unfix (t.take k) * 256 + c.toNat < 18446744073709551616 := by
  have hk : k < t.length := by
    rcases Nat.lt_or_ge k t.length with h1 | h1
    · exact h1
    · rw [List.getElem?_eq_none h1] at h; cases h
  have hc := c.toNat_lt
  have h1 := (M.fix_unfix k (t.take k) (by rw [List.length_take]; omega)).2
  have h2 : 256 ^ k ≤ 256 ^ 7 := Nat.pow_le_pow_right (by decide) (by omega)
  refine ⟨by rw [take_next h, M.unfix_snoc], ?_, ?_⟩ <;> omega
set_option maxRecDepth 100000 in
theorem or_byte (x : Nat) (c : UInt8) (h : x * 256 < 18446744073709551616) : bits .or .u64 ((x : Int) * 256) (c.toNat : Int) = ((x * 256 + c.toNat : Nat) : Int) := by
  have hc := c.toNat_lt
  rw [show (x : Int) * 256 = ((x * 256 : Nat) : Int) by omega, bits_or_u64_nat _ _ h (by omega), Nat.or_comm, show x * 256 = x * 2 ^ 8 from rfl, or_add _ _ 8 (by omega), Nat.add_comm]

set_option maxRecDepth 100000 in
set_option maxHeartbeats 1000000 in
theorem fixed_any {v : Value} {s : M.St} {w : World} (z : Int) (h : RD w v s) : Calls Try.prog 48 #[v, .int .i64 z] w (PR w v (.int .u64 ((M.fixedR z s).1 : Int)) (M.fixedR z s).2) := by
  have H1 := hid (within_any z w)
  have H2 := hid (take_any (M.clamp z) h)
  clear h
  go_enter Try.func48, Try.ntmps48
  go_wp2_with (first
    | (go_at_call 77; refine H1.out.mono ?_; rintro e w' ⟨rfl, rfl⟩)
    | (go_at_call 76; refine H2.out.mono ?_; rintro e w2 ⟨a, cap, rfl, hAt, hRD, hT⟩; have HA := hid hAt; have HR := hid (And.intro hRD hT); clear hAt hRD hT))
  obtain ⟨t, ht⟩ : ∃ t, (M.takeR (M.clamp z) s).1 = t := ⟨_, rfl⟩
  have HF := hid (show M.unfix t = (M.fixedR z s).1 by rw [← ht]; rfl)
  have h8 : t.length ≤ 8 := by rw [← ht]; exact Nat.le_trans (M.takeR_len _ _) (M.clamp_le z)
  rw [ht] at HA ⊢
  clear ht
  go_loopw [5, 13] (fun x i wr => ∃ k : Nat, k ≤ t.length ∧ x = .int .u64 (M.unfix (t.take k) : Int) ∧ i = .int .i64 (k : Int) ∧ wr = w2) (fun _ i _ => t.length - (intOf i).toNat)
  case atStart => exact ⟨0, by omega, rfl, rfl, rfl⟩
  case round =>
    obtain ⟨k, hk, rfl, rfl, rfl⟩ := hrel
    by_cases hlt : k < t.length
    · obtain ⟨c, hc⟩ : ∃ c, t[k]? = some c := ⟨t[k], List.getElem?_eq_getElem hlt⟩
      obtain ⟨b, o, rfl, hcell⟩ := HA.out k c hc
      obtain ⟨h1, h2, h3⟩ := unfix_step hc h8
      have HN := hid h1
      clear hc h1
      generalize M.unfix (t.take k) = x at *
      have hor := or_byte x c h2
      go_wp2
      go_roundw
      case rel => exact ⟨k + 1, by omega, by rw [HN.out]; simp, by go_num, by first | rfl | trivial⟩
      case measure => simp [intOf]; omega
    · obtain rfl : k = t.length := by omega
      go_wp2
      go_ret
      refine ⟨?_, HR.out.1, HR.out.2⟩
      show Ending.returned (.int .u64 ((M.unfix (t.take t.length) : Nat) : Int)) = _
      rw [List.take_length, HF.out]

end Go.Proofs.Ytplppnngmlljnaa
