/- Texts put together: WWrite, WApp. -/
import Derived.Test.YtmmgfankbabfbaaDoorQ17
import Derived.Test.YtmmgfankbabfbaaDoorQ18
import Derived.Test.YtmmgfankbabfbaaDoorQ19
/- A group is written. -/
namespace Go.Proofs.YtmmgfankbabfbaaDoor
open Go.RowKit

/-- A disk, all of whose blocks are of O. -/
def IsDO (w : World) (O : Nat → Prop) (p : Nat) (D : dSt) : Prop := ∃ hb wv, IsDisk w 0 p hb wv D ∧ O p ∧ O hb ∧ ∀ k, wv.ownBlock = some k → O k
set_option maxRecDepth 100000 in
theorem IsDO.touch {w w' : World} {O T : Nat → Prop} {p : Nat} {D : dSt} (h : IsDO w O p D) (hT : Touch T w w') (hn : ∀ k, O k → ¬ T k) : IsDO w' O p D := by
  obtain ⟨hb, wv, hd, h1, h2, h3⟩ := h
  exact ⟨hb, wv, hd.kept hT (hn _ h1) (hn _ h2) (fun k hk => hn k (h3 k hk)), h1, h2, h3⟩
theorem IsDO.adds {w w' : World} {O : Nat → Prop} {p : Nat} {D : dSt} (h : IsDO w O p D) (hT : Adds w w') : IsDO w' O p D := h.touch hT (fun _ _ => id)
set_option maxRecDepth 100000 in
theorem IsDO.mono {w : World} {O O' : Nat → Prop} {p : Nat} {D : dSt} (h : IsDO w O p D) (hn : ∀ k, O k → O' k) : IsDO w O' p D := by
  obtain ⟨hb, wv, hd, h1, h2, h3⟩ := h
  exact ⟨hb, wv, hd, hn _ h1, hn _ h2, fun k hk => hn k (h3 k hk)⟩
/-- A disk's numbers are within bounds. -/
structure DOk (D : dSt) (k : Nat) : Prop where
  waits : D.W.length ≤ k
  steps0 : 0 ≤ D.steps
  steps1 : D.steps ≤ k
  left0 : -1 ≤ D.left
  left1 : D.left ≤ 9223372036854775807
  size : 0 < D.size
set_option maxRecDepth 100000 in
theorem DOk.wrote {D : dSt} {k : Nat} (h : DOk D k) (i : Int) (bs : List UInt8) : DOk (D.wrote i bs) (k + 1) := by
  have h0 := h.left0
  have h1 := h.left1
  refine ⟨?_, ?_, ?_, ?_, ?_, h.size⟩
  · show (D.W ++ [(i, bs)]).length ≤ k + 1
    have := h.waits
    rw [List.length_append]; simp; omega
  · show 0 ≤ D.steps + 1
    have := h.steps0; omega
  · show D.steps + 1 ≤ _
    have := h.steps1; omega
  · show -1 ≤ less D.left
    unfold less; split <;> omega
  · show less D.left ≤ _
    unfold less; split <;> omega
set_option maxRecDepth 100000 in
theorem DOk.synced {D : dSt} {k : Nat} (h : DOk D k) : DOk D.synced (k + 1) := by
  have h0 := h.left0
  have h1 := h.left1
  refine ⟨Nat.zero_le _, ?_, ?_, ?_, ?_, h.size⟩
  · show 0 ≤ D.steps + 1
    have := h.steps0; omega
  · show D.steps + 1 ≤ _
    have := h.steps1; omega
  · show -1 ≤ less D.left
    unfold less; split <;> omega
  · show less D.left ≤ _
    unfold less; split <;> omega
theorem DOk.mono {D : dSt} {k j : Nat} (h : DOk D k) (hj : k ≤ j) : DOk D j := ⟨Nat.le_trans h.waits hj, h.steps0, by have := h.steps1; omega, h.left0, h.left1, h.size⟩
/-- r writes, from number i on, and a sync: the answer, and the disk behind it. -/
def goW (f : Nat → Int × List UInt8) : Nat → Nat → dSt → Int × dSt
  | 0, _, D => if D.left = 0 then (10, D) else (0, D.synced)
  | r + 1, i, D => if D.left = 0 then (10, D) else goW f r (i + 1) (D.wrote (f i).1 (f i).2)
theorem goW_ok {f : Nat → Int × List UInt8} : ∀ {r i : Nat} {D : dSt} {k : Nat}, DOk D k → DOk (goW f r i D).2 (k + r + 1)
  | 0, i, D, k, h => by
    unfold goW
    split
    · exact h.mono (by omega)
    · exact h.synced
  | r + 1, i, D, k, h => by
    unfold goW
    split
    · exact h.mono (by omega)
    · exact (goW_ok (r := r) (i := i + 1) (h.wrote _ _)).mono (by omega)
def fW (fr ep us : Nat) (g : List UInt8) (i : Nat) : Int × List UInt8 := (((fr + us + i : Nat) : Int), W.laid ep us g i)
/-- What write leaves. -/
def PWr (w : World) (O : Nat → Prop) (p : Nat) (x : Int × dSt) (e : Ending) (w' : World) : Prop := e = .returned (.int .i64 x.1) ∧ ∃ O', IsDO w' O' p x.2 ∧ Touch O w w' ∧ ∀ k, O' k → O k ∨ (w.heap.size ≤ k ∧ k < w'.heap.size)
/-- Write, by the disk's state. -/
def PWo (w : World) (O : Nat → Prop) (p : Nat) (z : Int) (D : dSt) (e : Ending) (w' : World) : Prop := e = .returned (.int .i64 z) ∧ Hid (∃ O', IsDO w' O' p D ∧ Touch O w w' ∧ (∀ k, O' k → O k ∨ (w.heap.size ≤ k ∧ k < w'.heap.size)) ∧ ∀ (l : Nat) (x : Array Value) (c : TypeId), w.heap[l]? = some (Obj.cells x c (0, 0)) → c ≠ 48 → c ≠ 106 → w'.heap[l]? = w.heap[l]?)
set_option maxRecDepth 100000 in
theorem dwrite_ok {w : World} {O : Nat → Prop} {p : Nat} {D : dSt} {n : Nat} (h : IsDO w O p D) (hk : DOk D n) (hn : n ≤ 900) (i : Int) (hi : 0 ≤ i ∧ i < D.size) (hon : D.left ≠ 0) (g c : Nat) (bs : List UInt8) (hs : Sec w g bs) :
    Calls Tryd.prog 40 #[Ptr p, .int .i64 i, .slice (some ⟨g, 0, none⟩) 256 c] w (PWo w O p 0 (D.wrote i bs)) := by
  obtain ⟨hb, wv, hd, h1, h2, h3⟩ := h
  have := hk.waits
  have := hk.steps1
  refine (write_ok 0 p hb wv D i g 0 c bs w hd (by omega) hi hon hs.len (rangeAt_row hs.box) hk.steps0 (by omega) hk.left0 hk.left1).mono ?_
  rintro e w' ⟨wv', rfl, hd', hT, hat⟩
  refine ⟨rfl, fun k => O k ∨ (wv'.ownBlock = some k), ⟨hb, wv', hd', .inl h1, .inl h2, fun k hk => .inr hk⟩, hT.mono (fun k _ c => by rcases c with rfl | c; exact h1; exact h3 k c), ?_, ?_⟩
  · intro k hk'
    rcases hk' with c | c
    · exact .inl c
    · rcases hat k c with c' | c'
      · exact .inl (h3 k c')
      · refine .inr ⟨c', ?_⟩
        obtain ⟨_, hc⟩ := own_type hd'.wait c
        exact (Array.getElem?_eq_some_iff.1 hc).1
  · intro l x c hl n1 n2
    have ha := hd.apart hl n1 n2
    refine hT.block l (Array.getElem?_eq_some_iff.1 hl).1 (fun c => ?_)
    rcases c with c | c
    · exact ha.1 c
    · exact ha.2.2 c
set_option maxRecDepth 100000 in
theorem dwrite_off {w : World} {O : Nat → Prop} {p : Nat} {D : dSt} {n : Nat} (h : IsDO w O p D) (hk : DOk D n) (i : Int) (hi : 0 ≤ i ∧ i < D.size) (hon : D.left = 0) (ga : Option Addr) (c : Nat) :
    Calls Tryd.prog 40 #[Ptr p, .int .i64 i, .slice ga 256 c] w (PWo w O p 10 D) := by
  have hD := h
  obtain ⟨hb, wv, hd, h1, h2, h3⟩ := h
  refine (write_off p D.size i ga c w (cellOf hd.box 0) (by rw [cellOf hd.box 4, hon]; rfl) hk.size hi).mono ?_
  rintro e w' ⟨rfl, hw⟩
  rw [hw]
  exact ⟨rfl, O, hD, Touch.refl _ _, fun _ c => .inl c, fun _ _ _ _ _ _ => rfl⟩
set_option maxRecDepth 100000 in
theorem dsync_any {w : World} {O : Nat → Prop} {p : Nat} {D : dSt} {n : Nat} (h : IsDO w O p D) (hk : DOk D n) (hn : n ≤ 900) : Calls Tryd.prog 41 #[Ptr p] w (PWr w O p (if D.left = 0 then (10, D) else (0, D.synced))) := by
  have hD := h
  obtain ⟨hb, wv, hd, h1, h2, h3⟩ := h
  by_cases hon : D.left = 0
  · rw [if_pos hon]
    refine (sync_off p D.size w (cellOf hd.box 0) (by rw [cellOf hd.box 4, hon]; rfl) hk.size).mono ?_
    rintro e w' ⟨rfl, hw⟩
    rw [hw]
    exact ⟨rfl, O, hD, Touch.refl _ _, fun _ c => .inl c⟩
  · rw [if_neg hon]
    have := hk.waits
    have := hk.steps1
    refine (sync_ok 0 p hb wv D w hd (by omega) hk.size hon hk.steps0 (by omega) hk.left0 hk.left1).mono ?_
    rintro e w' ⟨rfl, hd', hT⟩
    exact ⟨rfl, O, ⟨hb, _, hd', h1, h2, fun k hk => by cases hk⟩, hT.mono (fun k _ c => by rcases c with rfl | rfl; exact h1; exact h2), fun _ c => .inl c⟩

set_option maxRecDepth 100000 in
theorem rangeBs {hs : List Part} {g : List UInt8} (h : hs.map (·.bs) = W.pieces g) : hs.length = W.secs g.length ∧ ∀ i (x : Part), hs[i]? = some x → x.bs = W.piece (W.full g) i := by
  refine ⟨by rw [← List.length_map (f := (·.bs)), h, W.pieces, List.length_map, List.length_range], fun i x hx => ?_⟩
  have h1 : (hs.map (·.bs))[i]? = some x.bs := by rw [List.getElem?_map, hx]; rfl
  rw [h, W.pieces, List.getElem?_map] at h1
  obtain ⟨j, hj, e⟩ := Option.map_eq_some_iff.1 h1
  obtain ⟨_, e2⟩ := List.getElem?_eq_some_iff.1 hj
  rw [← e, ← e2, List.getElem_range]

set_option maxRecDepth 100000 in
theorem wr_mem {w wr w1 w2 : World} {O O' O2 : Nat → Prop} {p : Nat} {D : dSt} (h1 : Touch O w wr) (h2 : ∀ j, O' j → O j ∨ (w.heap.size ≤ j ∧ j < wr.heap.size)) (h3 : Adds wr w1) (hD : IsDO w2 O2 p D) (hT : Touch O' w1 w2) (hO : ∀ k, O2 k → O' k ∨ (w1.heap.size ≤ k ∧ k < w2.heap.size)) :
    ∃ O', IsDO w2 O' p D ∧ Touch O w w2 ∧ ∀ k, O' k → O k ∨ (w.heap.size ≤ k ∧ k < w2.heap.size) := by
  have s1 := h1.size
  have s3 := h3.size
  have s2 := hT.size
  refine ⟨O2, hD, (h1.trans (h3.mono (fun _ _ c => c.elim))).then hT (fun k hk c => ?_), fun k hk => ?_⟩
  · rcases h2 k c with c | c
    · exact c
    · omega
  · rcases hO k hk with c | c
    · rcases h2 k c with c | c
      · exact .inl c
      · exact .inr ⟨c.1, by omega⟩
    · exact .inr ⟨by omega, c.2⟩
end Go.Proofs.YtmmgfankbabfbaaDoor

/- Append. -/
namespace Go.Proofs.YtmmgfankbabfbaaDoor
open Go.RowKit

/-! ### Append -/
set_option maxRecDepth 100000 in
theorem S_append (x y : List UInt8) : S (x ++ y) = S x ++ S y := by simp [S]
/-! The answer, and the state behind it. -/
def appE (L : LS) (bs : List UInt8) : Int := if L.cl = true then 42 else if 4096 < bs.length then 3 else if W.secs (W.gbytes (L.R ++ [bs])).length ≤ L.ct - W.usedOf L.G then 0 else 31
def appL (L : LS) (bs : List UInt8) : LS := if appE L bs = 0 then { L with R := L.R ++ [bs] } else L
set_option maxRecDepth 100000 in
theorem LS.Ok.app {L : LS} (h : L.Ok) (bs : List UInt8) : (appL L bs).Ok := by
  unfold appL
  split
  · rename_i h0
    unfold appE at h0
    split at h0
    · cases h0
    · split at h0
      · cases h0
      · split at h0
        · rename_i hs
          exact ⟨h.fr, h.ct, h.ep, h.us, fun _ => hs, h.good⟩
        · cases h0
  · exact h
end Go.Proofs.YtmmgfankbabfbaaDoor
