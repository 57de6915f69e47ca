/- Worlds that turn in some blocks alone; bytes in memory; bytes put behind bytes. -/
import Derived.Test.YtahbggdidhmnfaaDoorProg
import Derived.Test.YtahbggdidhmnfaaDoorMath
import Derived.WalkKit
import Derived.WalkSpells
import Derived.WalkLawsBesides
import Derived.Below
import Derived.Deep.MidRow
import Derived.Laws.CopyOwn
import Derived.Laws.AppendOwnNone
import Derived.Laws.MakeOwn
import Derived.Lib.SliceRun
import Derived.Lib.AppendZeros
namespace Go.Proofs.YtahbggdidhmnfaaDoor
open Go.RowKit

/-- A fact kept from the walk. -/
theorem hid {p : Prop} (h : p) : Hid p := h

/-! ### Worlds that turn in some blocks alone -/
/-- From w to w' only blocks of which T says so have turned (and new ones have come). -/
structure Touch (T : Nat → Prop) (w w' : World) : Prop where
  os : w'.os = w.os
  tape : w'.tape = w.tape
  output : w'.output = w.output
  size : w.heap.size ≤ w'.heap.size
  block : ∀ k, k < w.heap.size → ¬ T k → w'.heap[k]? = w.heap[k]?

theorem Touch.refl (T : Nat → Prop) (w : World) : Touch T w w := ⟨rfl, rfl, rfl, Nat.le_refl _, fun _ _ _ => rfl⟩
theorem Touch.trans {T : Nat → Prop} {a b c : World} (h : Touch T a b) (k : Touch T b c) : Touch T a c :=
  ⟨k.os.trans h.os, k.tape.trans h.tape, k.output.trans h.output, Nat.le_trans h.size k.size, fun i hi hn => (k.block i (Nat.lt_of_lt_of_le hi h.size) hn).trans (h.block i hi hn)⟩
/-- Behind a first step: what the second one turns was there for the first (and T says so), or is new. -/
theorem Touch.then {T U : Nat → Prop} {a b c : World} (h : Touch T a b) (k : Touch U b c) (hu : ∀ i, i < a.heap.size → U i → T i) : Touch T a c :=
  ⟨k.os.trans h.os, k.tape.trans h.tape, k.output.trans h.output, Nat.le_trans h.size k.size, fun i hi hn => (k.block i (Nat.lt_of_lt_of_le hi h.size) (fun c => hn (hu i hi c))).trans (h.block i hi hn)⟩
theorem Touch.mono {T U : Nat → Prop} {w w' : World} (h : Touch T w w') (hu : ∀ i, i < w.heap.size → T i → U i) : Touch U w w' :=
  ⟨h.os, h.tape, h.output, h.size, fun i hi hn => h.block i hi (fun c => hn (hu i hi c))⟩
theorem Touch.drew {T : Nat → Prop} {a w : World} (h : Touch T a w) : Touch T a w.drew := ⟨h.os, h.tape, h.output, h.size, h.block⟩
theorem Touch.alloc {T : Nat → Prop} {a w : World} (h : Touch T a w) (o : Obj) : Touch T a (w.alloc o) :=
  h.trans ⟨rfl, rfl, rfl, by simp, fun k hk _ => Below.heap_alloc _ _ _ hk⟩
theorem Touch.setCell {T : Nat → Prop} {a w : World} (h : Touch T a w) {p : Addr} (hp : p.block < a.heap.size → T p.block) (u : Value) : Touch T a (w.setCell p u) :=
  h.then (U := fun k => k = p.block) ⟨rfl, rfl, rfl, by simp [World.setCell], fun k _ hk => Below.heap_setCell _ _ _ _ hk⟩ (fun i hi e => by subst e; exact hp hi)
theorem Touch.setRow {T : Nat → Prop} {a w : World} (h : Touch T a w) {g : Nat} (hp : g < a.heap.size → T g) (cs : Array Value) : Touch T a (w.setRow g cs) :=
  h.then (U := fun k => k = g) ⟨rfl, rfl, rfl, by simp [World.setRow], fun k _ hk => setRow_other w g k cs hk⟩ (fun i hi e => by subst e; exact hp hi)
theorem Touch.grown {T : Nat → Prop} {a w w' : World} {row : Option Nat} (h : Touch T a w) (hg : w.grownBy w' row) (hr : ∀ k, row = some k → k < a.heap.size → T k) : Touch T a w' :=
  h.then (U := fun k => row = some k) ⟨hg.os, hg.tape, hg.output, hg.size, fun k hk hn => hg.block k hk (fun e => hn e.symm)⟩ (fun i hi e => hr i e hi)
theorem Touch.below {T : Nat → Prop} {w w' : World} (h : Touch T w w') {B : Nat} (hB : B ≤ w.heap.size) (hT : ∀ k, k < B → ¬ T k) : Below B w w' :=
  ⟨h.os, h.tape, h.output, h.size, fun k hk => h.block k (by omega) (hT k hk)⟩
/-- Nothing that was there has turned. -/
abbrev Adds (w w' : World) : Prop := Touch (fun _ => False) w w'
theorem Adds.below {w w' : World} (h : Adds w w') : Below w.heap.size w w' := Touch.below h (Nat.le_refl _) (fun _ _ => id)
theorem Touch.of_below {T : Nat → Prop} {w w' : World} (h : Below w.heap.size w w') : Touch T w w' := ⟨h.os, h.tape, h.output, h.size, fun k hk _ => h.block k hk⟩


/-- A byte as a cell. -/
def B8 (b : UInt8) : Value := .int .u8 (b.toNat : Int)
/-- Bytes as cells. -/
def S (bs : List UInt8) : List Value := bs.map B8
theorem length_S (bs : List UInt8) : (S bs).length = bs.length := by simp [S]
theorem one_S (bs : List UInt8) : ∀ v ∈ S bs, v.oneCell' = true := by
  intro v hv
  simp only [S, List.mem_map] at hv
  obtain ⟨b, _, rfl⟩ := hv
  rfl
theorem S_get (bs : List UInt8) (j : Nat) : (S bs)[j]? = bs[j]?.map B8 := by simp [S]

/-- Where a slice's bytes lie. -/
def At (w : World) (a : Option Addr) (bs : List UInt8) : Prop := ∀ (j : Nat) (c : UInt8), bs[j]? = some c → ∃ b o, a = some ⟨b, o, none⟩ ∧ w.cell? ⟨b, o + j, none⟩ = some (.int .u8 (c.toNat : Int))
theorem At.nil (w : World) (a : Option Addr) : At w a [] := by intro j c h; simp at h
theorem At.block {w w' : World} {a : Option Addr} {bs : List UInt8} (h : At w a bs) (hb : ∀ b o, a = some ⟨b, o, none⟩ → b < w.heap.size → w'.heap[b]? = w.heap[b]?) : At w' a bs := by
  intro j c hj
  obtain ⟨b, o, rfl, hc⟩ := h j c hj
  exact ⟨b, o, rfl, by rw [World.cell?_of_block (w := w) (hb b o rfl (World.block_lt_of_cell? w _ hc))]; exact hc⟩
theorem At.adds {w w' : World} {a : Option Addr} {bs : List UInt8} (h : At w a bs) (hA : Adds w w') : At w' a bs := h.block (fun b _ _ hb => hA.block b hb id)
theorem At.pre {w : World} {a : Option Addr} {bs : List UInt8} (h : At w a bs) (n : Nat) : At w a (bs.take n) := by
  intro j c hj
  rw [List.getElem?_take] at hj
  split at hj
  · exact h j c hj
  · cases hj
theorem At.suf {w : World} {b o : Nat} {bs : List UInt8} (h : At w (some ⟨b, o, none⟩) bs) (n : Nat) : At w (some ⟨b, o + n, none⟩) (bs.drop n) := by
  intro j c hj
  rw [List.getElem?_drop] at hj
  obtain ⟨b', o', e, hc⟩ := h _ c hj
  obtain ⟨rfl, rfl⟩ : b = b' ∧ o = o' := by simpa using e
  exact ⟨_, _, rfl, by rw [Nat.add_assoc]; exact hc⟩

theorem info5all : ∃ i, Tryd.prog.info? 5 = some i ∧ i.zero = some (.int .u8 0) ∧ i.size = 1 ∧ i.bytes = 1 := by
  have h : (Tryd.prog.info? 5).map (fun i => (i.zero, i.size, i.bytes)) = some (some (.int .u8 0), 1, 1) := by kernel_rfl
  cases hq : Tryd.prog.info? 5 with
  | none => rw [hq] at h; cases h
  | some i =>
    rw [hq] at h
    simp only [Option.map_some, Option.some.injEq, Prod.mk.injEq] at h
    exact ⟨i, rfl, h.1, h.2.1, h.2.2⟩

/-- A row of bytes of one's own. -/
abbrev Own (w : World) (base : Nat) (v : Value) (bs : List UInt8) : Prop := w.ownsRow base 5 1 v bs.length (S bs)

theorem At.own {w : World} {base g n cap : Nat} {bs : List UInt8} (h : w.ownsRow base 5 1 (.slice (some ⟨g, 0, none⟩) n cap) n (S bs)) : At w (some ⟨g, 0, none⟩) bs := by
  intro j c hj
  rcases h.2 with ⟨e, _⟩ | ⟨g', cap', cur, e, _, hg, _, _, _, ht⟩
  · cases e
  · obtain ⟨rfl, _⟩ : g = g' ∧ cap = cap' := by simpa using e
    refine ⟨g, 0, rfl, ?_⟩
    rw [cell_of_row w g (0 + j) cur 5 _ hg, Nat.zero_add, ← Array.getElem?_toList]
    have h2 : (S bs)[j]? = some (.int .u8 (c.toNat : Int)) := by rw [S_get, hj]; rfl
    rw [← ht, List.getElem?_take] at h2
    split at h2
    · exact h2
    · cases h2
/-- A row that has bytes lies somewhere. -/
theorem Own.some {w : World} {base n : Nat} {v : Value} {xs : List Value} (h : w.ownsRow base 5 1 v n xs) (hn : 0 < n) : ∃ g cap, v = .slice (some ⟨g, 0, none⟩) n cap ∧ base ≤ g ∧ n ≤ cap := by
  rcases h.2 with ⟨_, e⟩ | ⟨g, cap, cur, rfl, hb, _, hc, _⟩
  · omega
  · exact ⟨g, cap, rfl, hb, hc⟩

/-- Bytes, wherever they lie, put behind bytes of one's own. -/
theorem append_bytes {w : World} {ops : Array Oper} {rest : List Oper} {o : Oper} {act : Act} {Q : Exit → Act → World → Prop} (hgd : o.guard = none) (s x : Operand)
    (ho : o.op = .call { callee := .builtin .append, args := #[s, x], argTypes := #[23, 23] }) (base : Nat) (v : Value) (n : Nat) (xs : List Value) (hs : act.eval s = v) (hown : w.ownsRow base 5 1 v n xs)
    (a : Option Addr) (bs : List UInt8) (cap : Nat) (hx : act.eval x = .slice a bs.length cap) (hcap : a = none → cap = 0) (hA : At w a bs) (hlen : n + bs.length ≤ 140737488355328) (hbase : base ≤ w.heap.size)
    (h : ∀ v' w', w'.ownsRow base 5 1 v' (n + bs.length) (xs ++ S bs) → w.grownBy w' v.ownBlock → (v = .slice none 0 0 ∨ v' ≠ .slice none 0 0) → wpList Tryd.prog ops Q rest (act.put o.dst v') w') : wpList Tryd.prog ops Q (o :: rest) act w := by
  obtain ⟨i0, hi, hz0, hz1, hz2⟩ := info5all
  cases a with
  | none =>
    obtain rfl := hcap rfl
    obtain rfl : bs = [] := by
      cases bs with
      | nil => rfl
      | cons c bs => obtain ⟨b, o', e, _⟩ := hA 0 c rfl; cases e
    refine wpList_append_own_none hgd s x 23 ho base 5 i0 1 Tryd.underlying23 hi v n xs hs hown hx (h v w (by simpa [S] using hown) ⟨rfl, rfl, rfl, Nat.le_refl _, fun _ _ _ => rfl⟩ ?_)
    by_cases hv : v = .slice none 0 0
    · exact .inl hv
    · exact .inr hv
  | some ad =>
    refine wpList_append_own _ hgd s x 23 ho base 5 i0 (.int .u8 0) 1 1 Tryd.underlying23 hi hz0 hz1 hz2 rfl (by decide) v n xs hs hown ad bs.length cap (S bs) hx (by rw [length_S, Nat.mul_one]) ?_ (one_S bs) (by unfold maxLen; omega) (by omega) hbase (fun v' w' h1 h2 h3 => h v' w' h1 h2 ?_)
    · intro j u hu
      rw [S_get] at hu
      cases hj : bs[j]? with
      | none => rw [hj] at hu; cases hu
      | some c =>
        rw [hj] at hu
        obtain ⟨b, o', e, hc⟩ := hA j c hj
        obtain rfl : ad = ⟨b, o', none⟩ := by simpa using e
        rw [Addr.add_mid, hc]
        exact hu
    · by_cases hv : v = .slice none 0 0
      · exact .inl hv
      · exact .inr (fun e => hv (h3.1 e).1)

theorem own_none (v : Value) : v.ownBlock = none ∨ v.ownBlock ≠ none := by cases v.ownBlock <;> simp
/-- Bytes as a string. -/
def Str (bs : List UInt8) : Value := .string ⟨bs.toArray⟩
theorem conv_at (w : World) (a : Option Addr) (bs : List UInt8) (cap : Nat) (h : At w a bs) : (convert 23 9 (.slice a bs.length cap)).run Tryd.prog w = .ok (.string ⟨bs.toArray⟩) w := by
  cases a with
  | none =>
    obtain rfl : bs = [] := by
      cases bs with
      | nil => rfl
      | cons c bs => obtain ⟨b, o', e, _⟩ := h 0 c rfl; cases e
    rw [run_convert_bytes_nil w 23 5 Tryd.underlying23 Tryd.underlying5 _ _ 9 Tryd.underlying9]; rfl
  | some ad =>
    refine run_convert_bytes_back w 23 9 5 ad cap bs Tryd.underlying23 Tryd.underlying5 Tryd.underlying9 (fun j hj => ?_)
    obtain ⟨b, o, e, hc⟩ := h j bs[j] (List.getElem?_eq_getElem hj)
    obtain rfl : ad = ⟨b, o, none⟩ := by simpa using e
    rw [Addr.add_mid]; exact hc

theorem At.ad {w : World} {a : Option Addr} {bs : List UInt8} (h : At w a bs) (hn : 0 < bs.length) : ∃ b o, a = some ⟨b, o, none⟩ := by
  obtain ⟨b, o, e, _⟩ := h 0 bs[0] (List.getElem?_eq_getElem hn)
  exact ⟨b, o, e⟩
end Go.Proofs.YtahbggdidhmnfaaDoor
