/- A law's own list of records, grown in place beside a log. -/
import Derived.Test.YtlgbgedkedddaaaDoorWEp0
namespace Go.Proofs.YtlgbgedkedddaaaDoor
open Go.RowKit
structure Gr (N : Nat → Prop) (w : World) (v : Value) (hs : List Part) : Prop where
  rows : w.ownsRow 0 22 1 v hs.length (hs.map PV)
  own : ∀ k, v.ownBlock = some k → N k ∧ k < w.heap.size
  data : ∀ x ∈ hs, PQ w (fun k => N k ∧ v.ownBlock ≠ some k) x
theorem Gr.nil (N : Nat → Prop) (w : World) : Gr N w (.slice none 0 0) [] := ⟨World.ownsRow_nil _ _ _ _, fun _ hk => (by cases hk), fun _ hx => (by cases hx)⟩
set_option maxRecDepth 100000 in
theorem Gr.next {N N' T : Nat → Prop} {w w' : World} {v : Value} {hs : List Part} (h : Gr N w v hs) (hT : Touch T w w') (hn : ∀ k, N k → ¬ T k) (hN : ∀ k, k < w.heap.size → N k → N' k) : Gr N' w' v hs := by
  refine ⟨row_touch h.rows hT (fun k hk => hn k (h.own k hk).1), fun k hk => ⟨hN k (h.own k hk).2 (h.own k hk).1, Nat.lt_of_lt_of_le (h.own k hk).2 hT.size⟩, fun x hx => ?_⟩
  have q := (h.data x hx).mono (Q' := fun k => N k ∧ N' k ∧ v.ownBlock ≠ some k) (fun k hk q => ⟨q.1, hN k hk q.1, q.2⟩)
  exact (q.touch hT (fun k q => hn k q.1)).mono (fun k _ q => q.2)
theorem Gr.adds {N : Nat → Prop} {w w' : World} {v : Value} {hs : List Part} (h : Gr N w v hs) (hA : Adds w w') : Gr N w' v hs := h.next hA (fun _ _ => id) (fun _ _ q => q)
set_option maxRecDepth 100000 in
theorem Gr.more {N : Nat → Prop} {w w1 w2 : World} {v v' : Value} {hs : List Part} {x : Part} (h : Gr N w v hs) (hA : Adds w w1) (hG : Grew w1 w2 22 v v' (hs.length + 1) (hs.map PV ++ [PV x])) (hN : ∀ k, w.heap.size ≤ k → N k) (hx : PQ w1 (fun k => N k ∧ v.ownBlock ≠ some k) x) : Gr N w2 v' (hs ++ [x]) := by
  have hw := hA.size
  have hw2 := hG.touch.size
  have hlt : ∀ k, k < w1.heap.size → v.ownBlock ≠ some k → v'.ownBlock ≠ some k := fun k hk hn c => by
    rcases hG.2.2 with e | e
    · exact hn (by rw [← e]; exact c)
    · rw [e] at c; cases c; omega
  refine ⟨by rw [List.length_append, List.map_append]; exact hG.1, fun k hk => ⟨?_, ?_⟩, fun y hy => ?_⟩
  · rcases hG.2.2 with e | e
    · exact (h.own k (by rw [← e]; exact hk)).1
    · rw [e] at hk; cases hk; exact hN _ hw
  · obtain ⟨a, c, e, _, hac, hq⟩ := own_cq hG.1
    obtain ⟨b, o, _, hb, hc⟩ := hq hs.length (PV x) (by rw [List.getElem?_append_right (by simp)]; simp)
    rw [hk] at hb
    cases hb
    exact World.block_lt_of_cell? w2 _ hc
  · rcases List.mem_append.1 hy with hy | hy
    · have q := ((h.data y hy).adds hA).mono (Q' := fun k => N k ∧ v.ownBlock ≠ some k ∧ v'.ownBlock ≠ some k) (fun k hk q => ⟨q.1, q.2, hlt k hk q.2⟩)
      exact (q.touch hG.touch (fun k q => q.2.1)).mono (fun k _ q => ⟨q.1, q.2.2⟩)
    · obtain rfl := List.mem_singleton.1 hy
      have q := hx.mono (Q' := fun k => N k ∧ v.ownBlock ≠ some k ∧ v'.ownBlock ≠ some k) (fun k hk q => ⟨q.1, q.2, hlt k hk q.2⟩)
      exact (q.touch hG.touch (fun k q => q.2.1)).mono (fun k _ q => ⟨q.1, q.2.2⟩)
set_option maxRecDepth 100000 in
theorem Gr.pl {N : Nat → Prop} {w : World} {v : Value} {hs : List Part} (h : Gr N w v hs) : ∃ a c, v = .slice a hs.length c ∧ GQ w N ⟨a, c, hs⟩ := by
  obtain ⟨a, c, e, _, h2, h3⟩ := own_cq h.rows
  exact ⟨a, c, e, ⟨h3.mono (fun k _ q => (h.own k q).1), h2, fun x hx => (h.data x hx).mono (fun _ _ q => q.1)⟩⟩
/-- New, and of no log. -/
def Nw (w0 : World) (OL OD : Nat → Prop) (k : Nat) : Prop := w0.heap.size ≤ k ∧ ¬ (OL k ∨ OD k)
theorem Wl.new {w0 w : World} {OL OD : Nat → Prop} {l p : Nat} {L : LS} {D : dSt} (h : Wl w0 w OL OD l p L D) : ∀ k, w.heap.size ≤ k → Nw w0 OL OD k := fun k hk => ⟨Nat.le_trans h.adds.size hk, fun c => by have := h.lt k c; omega⟩
theorem Gr.call {w0 w w' : World} {OL OD OL' OD' : Nat → Prop} {v : Value} {hs : List Part} (h : Gr (Nw w0 OL OD) w v hs) (hT : Touch (fun k => OL k ∨ OD k) w w') (hn : ∀ k, OL' k ∨ OD' k → (OL k ∨ OD k) ∨ w.heap.size ≤ k) : Gr (Nw w0 OL' OD') w' v hs :=
  h.next hT (fun k q => q.2) (fun k hk q => ⟨q.1, fun c => by rcases hn k c with c | c; exact q.2 c; omega⟩)
set_option maxRecDepth 100000 in
/-- New bytes. -/
theorem part_new {w w' : World} {bs : List UInt8} (h : w'.heap[w.heap.size]? = some (.cells (S bs).toArray 5 (0, 0)) ∧ Adds w w') : PQ w' (fun k => k = w.heap.size) ⟨some ⟨w.heap.size, 0, none⟩, bs, bs.length⟩ := by
  refine ⟨fun j u hj => ⟨w.heap.size, 0, rfl, rfl, ?_⟩, fun e => by cases e⟩
  rw [cellOf h.1, Nat.zero_add]
  simpa using hj
set_option maxRecDepth 100000 in
theorem l9_app {R : List (List UInt8)} {bs : List UInt8} (hb : bs.length < 700) : (W.secs (W.gbytes (R ++ [bs])).length ≤ 9 → appE (L9 R) bs = 0 ∧ appL (L9 R) bs = L9 (R ++ [bs])) ∧ (¬ W.secs (W.gbytes (R ++ [bs])).length ≤ 9 → appE (L9 R) bs = 31 ∧ appL (L9 R) bs = L9 R) := by
  have hc : ¬ (L9 R).cl = true := by simp
  have hl : ¬ 4096 < bs.length := by omega
  refine ⟨fun h => ?_, fun h => ?_⟩
  · have e : appE (L9 R) bs = 0 := by rw [appE, if_neg hc, if_neg hl, if_pos (by simpa [W.usedOf] using h)]
    exact ⟨e, by rw [appL, if_pos e]⟩
  · have e : appE (L9 R) bs = 31 := by rw [appE, if_neg hc, if_neg hl, if_neg (by simpa [W.usedOf] using h)]
    exact ⟨e, by rw [appL, e]; rfl⟩
set_option maxRecDepth 100000 in
/-- The list is grown by the record that the log took. -/
theorem gr_more {w0 w4 w5 : World} {OL OD : Nat → Prop} {l p m bl B : Nat} {L : LS} {D : dSt} {hs : List Part} {bs : List UInt8} {v v5 : Value} {o : Obj} (hW : Wl w0 w4 OL OD l p L D) (hG : Gr (Nw w0 OL OD) w4 v hs) (hX : PQ w4 (fun k => k = B) ⟨some ⟨B, 0, none⟩, bs, bs.length⟩) (hB : Nw w0 OL OD B) (hv : v.ownBlock ≠ some B) (hm : m = hs.length) (hbl : bl = bs.length)
    (h5 : Grew (w4.alloc o) w5 22 v v5 (m + 1) (hs.map PV ++ [.slice (some ⟨B, 0, none⟩) bl bl])) : Wl w0 w5 OL OD l p L D ∧ Gr (Nw w0 OL OD) w5 v5 (hs ++ [⟨some ⟨B, 0, none⟩, bs, bs.length⟩]) := by
  subst hm hbl
  have hA : Adds w4 (w4.alloc o) := (Touch.refl _ w4).alloc o
  refine ⟨(hW.add hA).touch h5.touch (fun k c => ⟨(hG.own k c).1.2, (hG.own k c).1.1⟩), hG.more hA h5 hW.new ((hX.adds hA).mono (fun k _ q => ?_))⟩
  subst q
  exact ⟨hB, hv⟩
theorem ok9 : (L9 []).Ok := ⟨by show 1 ≤ 4096; decide, by show 9 ≤ 10000; decide, by show 3 ≤ 1000000000; decide, Nat.zero_le _, fun c => absurd rfl c, fun g hg => (by cases hg)⟩
theorem heap_lt {w : World} {k : Nat} {o : Obj} (h : w.heap[k]? = some o) : k < w.heap.size := (Array.getElem?_eq_some_iff.1 h).1
theorem blk_new {w0 wr w3 : World} {OL OD OL7 OD7 : Nat → Prop} {l p : Nat} {L : LS} {D : dSt} (h : Wl w0 wr OL OD l p L D) (_hA : Adds wr w3) (n7 : ∀ k, OL7 k ∨ OD7 k → (OL k ∨ OD k) ∨ w3.heap.size ≤ k) (h3 : wr.heap.size < w3.heap.size) : Nw w0 OL7 OD7 wr.heap.size :=
  ⟨h.adds.size, fun c => by rcases n7 _ c with c | c; have := h.lt _ c; omega; omega⟩
end Go.Proofs.YtlgbgedkedddaaaDoor
