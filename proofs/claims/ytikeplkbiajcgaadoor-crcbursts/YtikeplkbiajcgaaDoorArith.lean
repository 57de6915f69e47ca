/- uint32's own operations as 32 bits; worlds that only take new memory; bytes in memory. -/
import Derived.Test.YtikeplkbiajcgaaDoorProg
import Derived.Test.YtikeplkbiajcgaaDoorMath
import Derived.WalkKit
import Derived.WalkSpells
import Derived.WalkLawsBesides
import Derived.Below
import Derived.Deep.MidRow
import Derived.Laws.CopyOwn
namespace Go.Proofs.YtikeplkbiajcgaaDoor
open Go.RowKit

/-- A fact kept from the walk. -/
theorem hid {p : Prop} (h : p) : Hid p := h
/-- 32 bits as a number. -/
abbrev N (x : M.V) : Int := (x.toNat : Int)

theorem wrap32 (n : Nat) (h : n < 4294967296) : IntKind.u32.wrap (n : Int) = (n : Int) := by
  simp only [IntKind.wrap, IntKind.bits, IntKind.signed]
  simp
  omega
theorem ofInt_N (x : M.V) : BitVec.ofInt 32 (N x) = x := by simp [N]
theorem bits_xor (x y : M.V) : bits .xor .u32 (N x) (N y) = N (x ^^^ y) := by
  show IntKind.u32.wrap ((BitVec.ofInt 32 (N x) ^^^ BitVec.ofInt 32 (N y)).toNat : Int) = _
  rw [ofInt_N, ofInt_N, wrap32 _ (BitVec.isLt _)]
theorem bits_and (x y : M.V) : bits .and .u32 (N x) (N y) = N (x &&& y) := by
  show IntKind.u32.wrap ((BitVec.ofInt 32 (N x) &&& BitVec.ofInt 32 (N y)).toNat : Int) = _
  rw [ofInt_N, ofInt_N, wrap32 _ (BitVec.isLt _)]
theorem bits_or (x y : M.V) : bits .or .u32 (N x) (N y) = N (x ||| y) := by
  show IntKind.u32.wrap ((BitVec.ofInt 32 (N x) ||| BitVec.ofInt 32 (N y)).toNat : Int) = _
  rw [ofInt_N, ofInt_N, wrap32 _ (BitVec.isLt _)]
theorem N_shr (x : M.V) (k : Nat) : N x / 2 ^ k = N (x >>> k) := by
  simp only [N]
  rw [BitVec.toNat_ushiftRight, Nat.shiftRight_eq_div_pow]
  simp
theorem N_shr1 (x : M.V) : N x / (2 : Int) = N (x >>> 1) := by have := N_shr x 1; rw [← this]; rfl
theorem N_shr4 (x : M.V) : N x / (16 : Int) = N (x >>> 4) := by have := N_shr x 4; rw [← this]; rfl
theorem N_shr8 (x : M.V) : N x / (256 : Int) = N (x >>> 8) := by have := N_shr x 8; rw [← this]; rfl
theorem N_shr16 (x : M.V) : N x / (65536 : Int) = N (x >>> 16) := by have := N_shr x 16; rw [← this]; rfl
theorem N_shr24 (x : M.V) : N x / (16777216 : Int) = N (x >>> 24) := by have := N_shr x 24; rw [← this]; rfl
theorem N_shl (x : M.V) (k : Nat) : (N x * 2 ^ k) % (4294967296 : Int) = N (x <<< k) := by
  simp only [N]
  rw [BitVec.toNat_shiftLeft, Nat.shiftLeft_eq]
  simp
theorem N_shl1 (x : M.V) : (N x * (2 : Int)) % (4294967296 : Int) = N (x <<< 1) := by have := N_shl x 1; rw [← this]; rfl
theorem N_neg (x : M.V) : (-(N x)) % (4294967296 : Int) = N (-x) := by
  simp only [N]
  rw [BitVec.toNat_neg]
  have := x.isLt
  omega
theorem N_not (x : M.V) : bits .xor .u32 4294967295 (N x) = N (~~~ x) := by
  have := bits_xor (~~~ 0#32) x
  rw [show N (~~~ 0#32) = 4294967295 by decide] at this
  rw [this, BitVec.xor_comm, ← M.not_xor]
theorem N_inj {x y : M.V} (h : N x = N y) : x = y := BitVec.eq_of_toNat_eq (by simp only [N] at h; omega)
theorem N_lt (x : M.V) : N x < (4294967296 : Int) := by have := x.isLt; simp only [N]; omega
theorem N_nonneg (x : M.V) : (0 : Int) ≤ N x := by simp only [N]; omega
theorem N_ofNat (n : Nat) (h : n < 4294967296) : N (BitVec.ofNat 32 n) = (n : Int) := by simp [N]; omega
/-- A number of uint32's range as 32 bits. -/
theorem N_of (n : Int) (h0 : 0 ≤ n) (h1 : n < 4294967296) : ∃ x : M.V, n = N x := ⟨BitVec.ofNat 32 n.toNat, by rw [N_ofNat _ (by omega)]; omega⟩

/-! ### Worlds that turn in some blocks alone -/
/-- From w to w' only blocks of which T says so have turned (and new ones have come). -/
structure Touch (T : Nat → Prop) (w w' : World) : Prop where
  os : w'.os = w.os
  tape : w'.tape = w.tape
  output : w'.output = w.output
  size : w.heap.size ≤ w'.heap.size
  block : ∀ k, k < w.heap.size → ¬ T k → w'.heap[k]? = w.heap[k]?

theorem Touch.refl (T : Nat → Prop) (w : World) : Touch T w w := ⟨rfl, rfl, rfl, Nat.le_refl _, fun _ _ _ => rfl⟩
theorem Touch.trans {T : Nat → Prop} {a b c : World} (h : Touch T a b) (k : Touch T b c) : Touch T a c :=
  ⟨k.os.trans h.os, k.tape.trans h.tape, k.output.trans h.output, Nat.le_trans h.size k.size, fun i hi hn => (k.block i (Nat.lt_of_lt_of_le hi h.size) hn).trans (h.block i hi hn)⟩
/-- Behind a first step: what the second one turns was there for the first (and T says so), or is new. -/
theorem Touch.then {T U : Nat → Prop} {a b c : World} (h : Touch T a b) (k : Touch U b c) (hu : ∀ i, i < a.heap.size → U i → T i) : Touch T a c :=
  ⟨k.os.trans h.os, k.tape.trans h.tape, k.output.trans h.output, Nat.le_trans h.size k.size, fun i hi hn => (k.block i (Nat.lt_of_lt_of_le hi h.size) (fun c => hn (hu i hi c))).trans (h.block i hi hn)⟩
theorem Touch.mono {T U : Nat → Prop} {w w' : World} (h : Touch T w w') (hu : ∀ i, i < w.heap.size → T i → U i) : Touch U w w' :=
  ⟨h.os, h.tape, h.output, h.size, fun i hi hn => h.block i hi (fun c => hn (hu i hi c))⟩
theorem Touch.drew {T : Nat → Prop} {a w : World} (h : Touch T a w) : Touch T a w.drew := ⟨h.os, h.tape, h.output, h.size, h.block⟩
theorem Touch.alloc {T : Nat → Prop} {a w : World} (h : Touch T a w) (o : Obj) : Touch T a (w.alloc o) :=
  h.trans ⟨rfl, rfl, rfl, by simp, fun k hk _ => Below.heap_alloc _ _ _ hk⟩
theorem Touch.setCell {T : Nat → Prop} {a w : World} (h : Touch T a w) {p : Addr} (hp : p.block < a.heap.size → T p.block) (u : Value) : Touch T a (w.setCell p u) :=
  h.then (U := fun k => k = p.block) ⟨rfl, rfl, rfl, by simp [World.setCell], fun k _ hk => Below.heap_setCell _ _ _ _ hk⟩ (fun i hi e => by subst e; exact hp hi)
theorem Touch.setRow {T : Nat → Prop} {a w : World} (h : Touch T a w) {g : Nat} (hp : g < a.heap.size → T g) (cs : Array Value) : Touch T a (w.setRow g cs) :=
  h.then (U := fun k => k = g) ⟨rfl, rfl, rfl, by simp [World.setRow], fun k _ hk => setRow_other w g k cs hk⟩ (fun i hi e => by subst e; exact hp hi)
theorem Touch.grown {T : Nat → Prop} {a w w' : World} {row : Option Nat} (h : Touch T a w) (hg : w.grownBy w' row) (hr : ∀ k, row = some k → k < a.heap.size → T k) : Touch T a w' :=
  h.then (U := fun k => row = some k) ⟨hg.os, hg.tape, hg.output, hg.size, fun k hk hn => hg.block k hk (fun e => hn e.symm)⟩ (fun i hi e => hr i e hi)
theorem Touch.below {T : Nat → Prop} {w w' : World} (h : Touch T w w') {B : Nat} (hB : B ≤ w.heap.size) (hT : ∀ k, k < B → ¬ T k) : Below B w w' :=
  ⟨h.os, h.tape, h.output, h.size, fun k hk => h.block k (by omega) (hT k hk)⟩
/-- Nothing that was there has turned. -/
abbrev Adds (w w' : World) : Prop := Touch (fun _ => False) w w'
theorem Adds.below {w w' : World} (h : Adds w w') : Below w.heap.size w w' := Touch.below h (Nat.le_refl _) (fun _ _ => id)
theorem Touch.of_below {T : Nat → Prop} {w w' : World} (h : Below w.heap.size w w') : Touch T w w' := ⟨h.os, h.tape, h.output, h.size, fun k hk _ => h.block k hk⟩


/-- A byte as a cell. -/
def B8 (b : UInt8) : Value := .int .u8 (b.toNat : Int)
/-- Bytes as cells. -/
def S (bs : List UInt8) : List Value := bs.map B8
theorem length_S (bs : List UInt8) : (S bs).length = bs.length := by simp [S]
theorem one_S (bs : List UInt8) : ∀ v ∈ S bs, v.oneCell' = true := by
  intro v hv
  simp only [S, List.mem_map] at hv
  obtain ⟨b, _, rfl⟩ := hv
  rfl
theorem S_get (bs : List UInt8) (j : Nat) : (S bs)[j]? = bs[j]?.map B8 := by simp [S]

/-- Where a slice's bytes lie. -/
def At (w : World) (a : Option Addr) (bs : List UInt8) : Prop := ∀ (j : Nat) (c : UInt8), bs[j]? = some c → ∃ b o, a = some ⟨b, o, none⟩ ∧ w.cell? ⟨b, o + j, none⟩ = some (.int .u8 (c.toNat : Int))
theorem At.nil (w : World) (a : Option Addr) : At w a [] := by intro j c h; simp at h
theorem At.block {w w' : World} {a : Option Addr} {bs : List UInt8} (h : At w a bs) (hb : ∀ b o, a = some ⟨b, o, none⟩ → b < w.heap.size → w'.heap[b]? = w.heap[b]?) : At w' a bs := by
  intro j c hj
  obtain ⟨b, o, rfl, hc⟩ := h j c hj
  exact ⟨b, o, rfl, by rw [World.cell?_of_block (w := w) (hb b o rfl (World.block_lt_of_cell? w _ hc))]; exact hc⟩
theorem At.adds {w w' : World} {a : Option Addr} {bs : List UInt8} (h : At w a bs) (hA : Adds w w') : At w' a bs := h.block (fun b _ _ hb => hA.block b hb id)
theorem At.pre {w : World} {a : Option Addr} {bs : List UInt8} (h : At w a bs) (n : Nat) : At w a (bs.take n) := by
  intro j c hj
  rw [List.getElem?_take] at hj
  split at hj
  · exact h j c hj
  · cases hj
theorem At.suf {w : World} {b o : Nat} {bs : List UInt8} (h : At w (some ⟨b, o, none⟩) bs) (n : Nat) : At w (some ⟨b, o + n, none⟩) (bs.drop n) := by
  intro j c hj
  rw [List.getElem?_drop] at hj
  obtain ⟨b', o', e, hc⟩ := h _ c hj
  obtain ⟨rfl, rfl⟩ : b = b' ∧ o = o' := by simpa using e
  exact ⟨_, _, rfl, by rw [Nat.add_assoc]; exact hc⟩

/-- The table of halves stands where the program laid it. -/
def Tab (w : World) : Prop := ∀ j, j < 16 → w.cell? ⟨0, j, none⟩ = some (.int .u32 ((M.tab.getD j 0 : Nat) : Int))
theorem Tab.adds {w w' : World} (h : Tab w) (hA : Adds w w') : Tab w' := by
  intro j hj
  rw [World.cell?_of_block (w := w) (hA.block 0 (World.block_lt_of_cell? w _ (h j hj)) id)]
  exact h j hj
theorem Tab.drew {w : World} (h : Tab w) : Tab w.drew := h
end Go.Proofs.YtikeplkbiajcgaaDoor
