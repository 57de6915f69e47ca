/- Texts put together: FNums, FLasts0. -/
import Derived.Test.YtjbdchgadfhffaaDoorQ32
import Derived.Test.YtjbdchgadfhffaaDoorQ34
import Derived.Test.YtjbdchgadfhffaaDoorQ36
/- Numbers that came in. -/
namespace Go.Proofs.YtjbdchgadfhffaaDoor
open Go.ChangeShapes Go.WideShapes Go.ChangeAt Go.RowKit
/-- Numbers that lie somewhere. -/
def NumsAt (w : World) (a : Option Addr) (n : Nat) : Prop := ∀ j, j < n → ∃ b o z, a = some ⟨b, o, none⟩ ∧ w.cell? ⟨b, o + j, none⟩ = some (.int .i64 z)
set_option maxRecDepth 100000 in
theorem c3 : Tryd.prog.cellsOf 3 = 1 := by kernel_rfl
set_option maxRecDepth 100000 in
/-- Out of the reading: where a slice's numbers lie. -/
theorem nums_at {H : Type} {enc : TypeId × Value → H} {W : World} {a1 : Option Addr} {len1 cap1 : Nat} {d1 : DataW H} {p1 : List MemPlace} (h1 : DataW.Trod enc Tryd.prog W 0 (fun _ => true) true 42 (.slice a1 len1 cap1) d1 p1) : NumsAt W a1 len1 := by
  obtain ⟨fuel, hf⟩ := h1
  rcases open_ints Tryd.underlying42 Tryd.underlying3 c3 hf with ⟨hcs, _⟩ | ⟨x, l, c, zs, hcs, _, hl, hm, hz, _, hcell, hwz⟩
  · simp [Value.cells] at hcs
    obtain ⟨rfl, rfl, rfl⟩ := hcs
    exact fun j hj => absurd hj (by omega)
  · simp [Value.cells] at hcs
    obtain ⟨rfl, rfl, rfl⟩ := hcs
    have hz' : zs.length = cap1 := by simpa using hz
    intro j hj
    obtain ⟨b, o, sp⟩ := x
    have hc := hcell j (by omega)
    have hsp : sp = none := by
      have hc0 := hcell 0 (by omega)
      have : (⟨b, o, sp⟩ : Addr).add 0 = ⟨b, o, sp⟩ := rfl
      rw [this] at hc0
      cases sp with
      | none => rfl
      | some q => simp [World.cell?] at hc0; split at hc0 <;> simp at hc0
    subst hsp
    exact ⟨b, o, zs.getD j 0, rfl, by rw [← Addr.add_mid]; exact hc⟩
end Go.Proofs.YtjbdchgadfhffaaDoor

/- The arrays of the law PoolLasts, in blocks that are nobody's. -/
namespace Go.Proofs.YtjbdchgadfhffaaDoor
open Go.RowKit

/-- A text as a value. -/
abbrev sv (bs : List UInt8) : Value := .string ⟨bs.toArray⟩
/-- Six texts. -/
def arr (f : Nat → Option UInt8) : Array Value := #[sv (tx 0 (f 0)), sv (tx 1 (f 1)), sv (tx 2 (f 2)), sv (tx 3 (f 3)), sv (tx 4 (f 4)), sv (tx 5 (f 5))]
set_option maxRecDepth 100000 in
theorem arr_get (f : Nat → Option UInt8) {no : Nat} (h : no < 6) : (arr f)[no]? = some (sv (tx no (f no))) := by
  obtain rfl | rfl | rfl | rfl | rfl | rfl : no = 0 ∨ no = 1 ∨ no = 2 ∨ no = 3 ∨ no = 4 ∨ no = 5 := by omega
  all_goals rfl
set_option maxRecDepth 100000 in
theorem arr_set (f : Nat → Option UInt8) {no : Nat} (h : no < 6) (c : UInt8) : (arr f).setIfInBounds no (sv (pl no c)) = arr (say f no c) := by
  obtain rfl | rfl | rfl | rfl | rfl | rfl : no = 0 ∨ no = 1 ∨ no = 2 ∨ no = 3 ∨ no = 4 ∨ no = 5 := by omega
  all_goals rfl
abbrev AObj (f : Nat → Option UInt8) : Obj := .cells (arr f) 49 (0, 0)
set_option maxRecDepth 100000 in
/-- A block that is nobody's turns. -/
theorem LpX.turn {w0 w w' : World} {X Y : List (Nat × Obj)} {p dp : Nat} {s : F.Po} {D : dSt} {n k : Nat} (h : LpX w0 w X p dp s D n k) {g : Nat} (hT : Touch (fun j => j = g) w w') (hg : ∃ x ∈ X, x.1 = g) (h0 : w0.heap.size ≤ g) (hY : ∀ y ∈ Y, (∃ x ∈ X, x.1 = y.1) ∧ w'.heap[y.1]? = some y.2) : LpX w0 w' Y p dp s D n k := by
  obtain ⟨O, OD, h, hX⟩ := h
  obtain ⟨x, hx, rfl⟩ := hg
  have hno := (hX x hx).2
  have hz := hT.size
  refine ⟨O, OD, ⟨h.pool.touch hT (fun j c e => hno (.inl (by rw [← e]; exact c))), h.disk.touch hT (fun j c e => hno (.inr (by rw [← e]; exact c))), h.ok, h.apart, h.low, fun j c => Nat.lt_of_lt_of_le (h.lt j c) hz, h.adds.then hT (fun j hj e => by omega), h.tab, h.good, h.pok⟩, fun y hy => ?_⟩
  obtain ⟨⟨z, hz', e⟩, h2⟩ := hY y hy
  exact ⟨h2, by rw [← e]; exact (hX z hz').2⟩
set_option maxRecDepth 100000 in
/-- A text is laid into the first array. -/
theorem lx_say {w0 w : World} {gF : Nat} {X : List (Nat × Obj)} {f : Nat → Option UInt8} {p dp : Nat} {s : F.Po} {D : dSt} {n k : Nat} (h : LpX w0 w ((gF, AObj f) :: X) p dp s D n k) (hne : ∀ x ∈ X, x.1 ≠ gF) (h0 : w0.heap.size ≤ gF) {no : Nat} (hno : no < 6) (c : UInt8) :
    LpX w0 (w.setCell ⟨gF, no, none⟩ (sv (pl no c))) ((gF, AObj (say f no c)) :: X) p dp s D n k := by
  have hb : w.heap[gF]? = some (AObj f) := h.at (gF, AObj f) List.mem_cons_self
  have hT : Touch (fun j => j = gF) w (w.setCell ⟨gF, no, none⟩ (sv (pl no c))) := Touch.setCell (T := fun j => j = gF) (Touch.refl _ w) (p := ⟨gF, no, none⟩) (fun _ => rfl) _
  refine h.turn hT ⟨_, List.mem_cons_self, rfl⟩ h0 (fun y hy => ?_)
  rcases List.mem_cons.1 hy with rfl | hy
  · refine ⟨⟨_, List.mem_cons_self, rfl⟩, ?_⟩
    rw [heap_setCell_same w gF no _ 49 _ hb]
    show some (Obj.cells ((arr f).setIfInBounds no (sv (pl no c))) 49 (0, 0)) = _
    rw [arr_set f hno c]
  · refine ⟨⟨y, List.mem_cons_of_mem _ hy, rfl⟩, ?_⟩
    have hl := h.at y (List.mem_cons_of_mem _ hy)
    rw [hT.block y.1 (Array.getElem?_eq_some_iff.1 hl).1 (hne y hy)]
    exact hl
/-- A byte of a number. -/
def byt (i : Nat) : UInt8 := UInt8.ofNat i
set_option maxRecDepth 100000 in
theorem byt_wrap {i : Nat} (h : i < 256) : IntKind.u8.wrap (i : Int) = ((byt i).toNat : Int) := by
  have : (byt i).toNat = i := by unfold byt; rw [UInt8.toNat_ofNat']; omega
  rw [this, IntKind.wrap_u8]
  omega
set_option maxRecDepth 100000 in
theorem lx_flush {w0 w : World} {X : List (Nat × Obj)} {p dp : Nat} {s : F.Po} {D : dSt} {n k : Nat} (h : LpX w0 w X p dp s D n k) (hk9 : k + (F.which s F.isDirty).length ≤ 890) :
    Calls Tryd.prog 10 #[Ptr p] w (fun e w' => e = .returned (.int .i64 (F.flX s D).1) ∧ Hid (LpX w0 w' X p dp (F.flS s D) (F.flX s D).2 n (k + (F.which s F.isDirty).length + 1))) := by
  obtain ⟨O, OD, h, hX⟩ := h
  have hz0 := h.adds.size
  refine (bflush_any h.pool h.disk h.ok h.apart h.lt h.good h.pok (fun w' hT => h.tab.adds (h.adds.then hT (fun j hj c => by have := h.low j c; omega))) hk9).mono ?_
  rintro e w' ⟨rfl, H⟩
  obtain ⟨h1, O', h2, h3, h4⟩ := H.out
  have hz := h3.size
  refine ⟨rfl, O, O', ⟨h1, h2, fl_ok h.ok, fun j c c' => ?_, fun j c => ?_, fun j c => ?_, h.adds.then h3 (fun j hj c => by have := h.low j c; omega), h.tab, h.good.fl D, h.pok.same (F.fl_same s D) (fl_size s D)⟩, fun x hx => ?_⟩
  · rcases h4 j c' with c' | c'
    · exact h.apart j c c'
    · have := h.lt j (.inl c); omega
  · rcases c with c | c
    · exact h.low j (.inl c)
    · rcases h4 j c with c | c
      · exact h.low j (.inr c)
      · omega
  · rcases c with c | c
    · exact Nat.lt_of_lt_of_le (h.lt j (.inl c)) hz
    · rcases h4 j c with c | c
      · exact Nat.lt_of_lt_of_le (h.lt j (.inr c)) hz
      · exact c.2
  · have hl := (Array.getElem?_eq_some_iff.1 (hX x hx).1).1
    refine ⟨by rw [h3.block x.1 hl (hX x hx).2]; exact (hX x hx).1, fun c => ?_⟩
    rcases c with c | c
    · exact (hX x hx).2 (.inl c)
    · rcases h4 x.1 c with c | c
      · exact (hX x hx).2 (.inr c)
      · omega
set_option maxRecDepth 100000 in
theorem lx_accept {w0 w : World} {X : List (Nat × Obj)} {p dp : Nat} {s : F.Po} {D : dSt} {n k : Nat} (h : LpX w0 w X p dp s D n k) :
    Calls Tryd.prog 12 #[Ptr p] w (fun e w' => ∃ z : Int, e = .returned (.int .i64 z) ∧ Hid (LpX w0 w' X p dp (F.accS s) D n k)) := by
  have hl := h.e.len
  obtain ⟨O, OD, h, q⟩ := h
  refine (baccept_any h.pool (fun j c => h.lt j (.inl c)) hl).mono ?_
  rintro e w' ⟨rfl, H⟩
  obtain ⟨O', h1, h2, h3⟩ := H.out
  exact ⟨_, rfl, lx_moved h q h1 h2 h3 h.good.acc (h.pok.same ⟨rfl, rfl, rfl⟩ rfl)⟩
end Go.Proofs.YtjbdchgadfhffaaDoor
