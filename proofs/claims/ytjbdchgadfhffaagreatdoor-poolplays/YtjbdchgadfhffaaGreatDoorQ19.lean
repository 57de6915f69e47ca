/- A disk whose blocks have an owner: reads, writes, syncs by its state. -/
import Derived.Test.YtjbdchgadfhffaaGreatDoorQ12
import Derived.Test.YtjbdchgadfhffaaGreatDoorQ14
namespace Go.Proofs.YtjbdchgadfhffaaGreatDoor
open Go.RowKit

/-- A disk, all of whose blocks are of O. -/
def IsDO (w : World) (O : Nat → Prop) (p : Nat) (D : dSt) : Prop := ∃ hb wv, IsDisk w 0 p hb wv D ∧ O p ∧ O hb ∧ ∀ k, wv.ownBlock = some k → O k
theorem IsDO.touch {w w' : World} {O T : Nat → Prop} {p : Nat} {D : dSt} (h : IsDO w O p D) (hT : Touch T w w') (hn : ∀ k, O k → ¬ T k) : IsDO w' O p D := by
  obtain ⟨hb, wv, hd, h1, h2, h3⟩ := h
  exact ⟨hb, wv, hd.kept hT (hn _ h1) (hn _ h2) (fun k hk => hn k (h3 k hk)), h1, h2, h3⟩
theorem IsDO.adds {w w' : World} {O : Nat → Prop} {p : Nat} {D : dSt} (h : IsDO w O p D) (hT : Adds w w') : IsDO w' O p D := h.touch hT (fun _ _ => id)
theorem IsDO.mono {w : World} {O O' : Nat → Prop} {p : Nat} {D : dSt} (h : IsDO w O p D) (hn : ∀ k, O k → O' k) : IsDO w O' p D := by
  obtain ⟨hb, wv, hd, h1, h2, h3⟩ := h
  exact ⟨hb, wv, hd, hn _ h1, hn _ h2, fun k hk => hn k (h3 k hk)⟩
/-- A disk's numbers are within bounds. -/
structure DOk (D : dSt) (k : Nat) : Prop where
  waits : D.W.length ≤ k
  steps0 : 0 ≤ D.steps
  steps1 : D.steps ≤ k
  left0 : -1 ≤ D.left
  left1 : D.left ≤ 9223372036854775807
  size : 0 < D.size
theorem DOk.wrote {D : dSt} {k : Nat} (h : DOk D k) (i : Int) (bs : List UInt8) : DOk (D.wrote i bs) (k + 1) := by
  have h0 := h.left0
  have h1 := h.left1
  refine ⟨?_, ?_, ?_, ?_, ?_, h.size⟩
  · show (D.W ++ [(i, bs)]).length ≤ k + 1
    have := h.waits
    rw [List.length_append]; simp; omega
  · show 0 ≤ D.steps + 1
    have := h.steps0; omega
  · show D.steps + 1 ≤ _
    have := h.steps1; omega
  · show -1 ≤ less D.left
    unfold less; split <;> omega
  · show less D.left ≤ _
    unfold less; split <;> omega
theorem DOk.synced {D : dSt} {k : Nat} (h : DOk D k) : DOk D.synced (k + 1) := by
  have h0 := h.left0
  have h1 := h.left1
  refine ⟨Nat.zero_le _, ?_, ?_, ?_, ?_, h.size⟩
  · show 0 ≤ D.steps + 1
    have := h.steps0; omega
  · show D.steps + 1 ≤ _
    have := h.steps1; omega
  · show -1 ≤ less D.left
    unfold less; split <;> omega
  · show less D.left ≤ _
    unfold less; split <;> omega
theorem DOk.mono {D : dSt} {k j : Nat} (h : DOk D k) (hj : k ≤ j) : DOk D j := ⟨Nat.le_trans h.waits hj, h.steps0, by have := h.steps1; omega, h.left0, h.left1, h.size⟩
/-- r writes, from number i on, and a sync: the answer, and the disk behind it. -/
def goW (f : Nat → Int × List UInt8) : Nat → Nat → dSt → Int × dSt
  | 0, _, D => if D.left = 0 then (10, D) else (0, D.synced)
  | r + 1, i, D => if D.left = 0 then (10, D) else goW f r (i + 1) (D.wrote (f i).1 (f i).2)
theorem goW_ok {f : Nat → Int × List UInt8} : ∀ {r i : Nat} {D : dSt} {k : Nat}, DOk D k → DOk (goW f r i D).2 (k + r + 1)
  | 0, i, D, k, h => by
    unfold goW
    split
    · exact h.mono (by omega)
    · exact h.synced
  | r + 1, i, D, k, h => by
    unfold goW
    split
    · exact h.mono (by omega)
    · exact (goW_ok (r := r) (i := i + 1) (h.wrote _ _)).mono (by omega)
theorem own_type {w : World} {B : Nat} {e : TypeId} {size : Nat} {v : Value} {n : Nat} {xs : List Value} (h : w.ownsRow B e size v n xs) {k : Nat} (hk : v.ownBlock = some k) : ∃ cur, w.heap[k]? = some (.cells cur e (0, 0)) := by
  rcases h.2 with ⟨rfl, _⟩ | ⟨g, cap, cur, rfl, hb', hgg, rest⟩
  · cases hk
  · obtain rfl : g = k := by simpa [Value.ownBlock] using hk
    exact ⟨cur, hgg⟩
/-- What a call of a disk leaves. -/
def PDo (w : World) (O : Nat → Prop) (p : Nat) (z : Int) (D : dSt) (e : Ending) (w' : World) : Prop := e = .returned (.int .i64 z) ∧ Hid (∃ O', IsDO w' O' p D ∧ Touch O w w' ∧ ∀ k, O' k → O k ∨ (w.heap.size ≤ k ∧ k < w'.heap.size))
theorem rangeOf {w : World} {g o : Nat} {bs : List UInt8} (h : At w (some ⟨g, o, none⟩) bs) : w.rangeAt g o (S bs) := by
  intro j v hv
  rw [S_get] at hv
  obtain ⟨c, hc, rfl⟩ := Option.map_eq_some_iff.1 hv
  obtain ⟨b, o', e, h1⟩ := h j c hc
  obtain ⟨rfl, rfl⟩ : g = b ∧ o = o' := by simpa using e
  exact h1
/-- Write, by the disk's state. -/
theorem dput_any {w : World} {O : Nat → Prop} {p : Nat} {D : dSt} {n : Nat} (h : IsDO w O p D) (hk : DOk D n) (hn : n ≤ 900) (i : Int) (hi : 0 ≤ i ∧ i < D.size) (g c : Nat) (bs : List UInt8) (hl : bs.length = 256) (hs : At w (some ⟨g, 0, none⟩) bs) :
    Calls Tryz.prog 77 #[Ptr p, .int .i64 i, .slice (some ⟨g, 0, none⟩) 256 c] w (PDo w O p (if D.left = 0 then 10 else 0) (if D.left = 0 then D else D.wrote i bs)) := by
  have hD := h
  obtain ⟨hb, wv, hd, h1, h2, h3⟩ := h
  by_cases hon : D.left = 0
  · rw [if_pos hon, if_pos hon]
    refine (write_off p D.size i _ c w (cellOf hd.box 0) (by rw [cellOf hd.box 4, hon]; rfl) hk.size hi).mono ?_
    rintro e w' ⟨rfl, hw⟩
    rw [hw]
    exact ⟨rfl, O, hD, Touch.refl _ _, fun _ c => .inl c⟩
  · rw [if_neg hon, if_neg hon]
    have := hk.waits
    have := hk.steps1
    refine (write_ok 0 p hb wv D i g 0 c bs w hd (by omega) hi hon hl (rangeOf hs) hk.steps0 (by omega) hk.left0 hk.left1).mono ?_
    rintro e w' ⟨wv', rfl, hd', hT, hat⟩
    refine ⟨rfl, fun k => O k ∨ (wv'.ownBlock = some k), ⟨hb, wv', hd', .inl h1, .inl h2, fun k hk => .inr hk⟩, hT.mono (fun k _ c => by rcases c with rfl | c; exact h1; exact h3 k c), ?_⟩
    intro k hk'
    rcases hk' with c | c
    · exact .inl c
    · rcases hat k c with c' | c'
      · exact .inl (h3 k c')
      · refine .inr ⟨c', ?_⟩
        obtain ⟨_, hc⟩ := own_type hd'.wait c
        exact (Array.getElem?_eq_some_iff.1 hc).1
theorem dsync_do {w : World} {O : Nat → Prop} {p : Nat} {D : dSt} {n : Nat} (h : IsDO w O p D) (hk : DOk D n) (hn : n ≤ 900) : Calls Tryz.prog 78 #[Ptr p] w (PDo w O p (if D.left = 0 then 10 else 0) (if D.left = 0 then D else D.synced)) := by
  have hD := h
  obtain ⟨hb, wv, hd, h1, h2, h3⟩ := h
  by_cases hon : D.left = 0
  · rw [if_pos hon, if_pos hon]
    refine (sync_off p D.size w (cellOf hd.box 0) (by rw [cellOf hd.box 4, hon]; rfl) hk.size).mono ?_
    rintro e w' ⟨rfl, hw⟩
    rw [hw]
    exact ⟨rfl, O, hD, Touch.refl _ _, fun _ c => .inl c⟩
  · rw [if_neg hon, if_neg hon]
    have := hk.waits
    have := hk.steps1
    refine (sync_ok 0 p hb wv D w hd (by omega) hk.size hon hk.steps0 (by omega) hk.left0 hk.left1).mono ?_
    rintro e w' ⟨rfl, hd', hT⟩
    exact ⟨rfl, O, ⟨hb, _, hd', h1, h2, fun k hk => by cases hk⟩, hT.mono (fun k _ c => by rcases c with rfl | rfl; exact h1; exact h2), fun _ c => .inl c⟩
/-- A sector of the disk, read. -/
def PSec (w : World) (bs : List UInt8) (e : Ending) (w' : World) : Prop := ∃ g cap, e = .returned (.tuple #[.slice (some ⟨g, 0, none⟩) 256 cap, .int .i64 0]) ∧ Hid (At w' (some ⟨g, 0, none⟩) bs ∧ bs.length = 256 ∧ 256 ≤ cap ∧ w.heap.size ≤ g ∧ Adds w w')
theorem dread_any {w : World} {O : Nat → Prop} {p : Nat} {D : dSt} {n : Nat} (h : IsDO w O p D) (hk : DOk D n) (hn : n ≤ 900) (hon : D.left ≠ 0) (i : Int) (hi : 0 ≤ i ∧ i < D.size) : Calls Tryz.prog 39 #[Ptr p, .int .i64 i] w (PSec w (hasOf D.H D.W i)) := by
  obtain ⟨hb, wv, hd, h1, h2, h3⟩ := h
  have := hk.waits
  refine (read_ok 0 p hb wv D i w hd (by omega) hi hon).mono ?_
  rintro e w' ⟨v, rfl, hr, hv, hA⟩
  obtain ⟨g, cap, rfl, hg, hc⟩ := Own.some hr (by omega)
  exact ⟨g, cap, rfl, At.own hr, hasOf_len i hd.good D.W hd.goodW, hc, hg, hA⟩
theorem dread_off {w : World} {O : Nat → Prop} {p : Nat} {D : dSt} {n : Nat} (h : IsDO w O p D) (hk : DOk D n) (hon : D.left = 0) (i : Int) (hi : 0 ≤ i ∧ i < D.size) : Calls Tryz.prog 39 #[Ptr p, .int .i64 i] w (Tells (.tuple #[.slice none 0 0, .int .i64 10]) w) := by
  obtain ⟨hb, wv, hd, h1, h2, h3⟩ := h
  exact read_off p D.size i w (cellOf hd.box 0) (by rw [cellOf hd.box 4, hon]; rfl) hk.size hi
theorem dsize_any {w : World} {O : Nat → Prop} {p : Nat} {D : dSt} {n : Nat} (h : IsDO w O p D) (hk : DOk D n) : Calls Tryz.prog 54 #[Ptr p] w (Tells (.int .i64 D.size) w) := by
  obtain ⟨hb, wv, hd, h1, h2, h3⟩ := h
  exact size_any p D.size w (cellOf hd.box 0) hk.size
theorem dsteps_any {w : World} {O : Nat → Prop} {p : Nat} {D : dSt} {n : Nat} (h : IsDO w O p D) (hk : DOk D n) : Calls Tryz.prog 17 #[Ptr p] w (Tells (.int .i64 D.steps) w) := by
  obtain ⟨hb, wv, hd, h1, h2, h3⟩ := h
  exact steps_any p D.size D.steps w (cellOf hd.box 0) (cellOf hd.box 3) hk.size
end Go.Proofs.YtjbdchgadfhffaaGreatDoor
