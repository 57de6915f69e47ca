/- Texts put together: WGroups, WCom. -/
import Derived.Test.YtcablnjhfocogaaDoorQ27
import Derived.Test.YtcablnjhfocogaaDoorQ29
import Derived.Test.YtcablnjhfocogaaDoorQ30
/- What a log tells of its groups. -/
namespace Go.Proofs.YtcablnjhfocogaaDoor
open Go.RowKit

/-- A list of lists of slices in new memory. -/
structure FreshT (B : Nat) (w : World) (v : Value) (t : List Pl) : Prop where
  rows : w.ownsRow 0 87 1 v t.length (t.map GV)
  own : ∀ k, v.ownBlock = some k → B ≤ k
  data : ∀ g ∈ t, GQ w (fun k => B ≤ k ∧ v.ownBlock ≠ some k) g
theorem FreshT.touch {B : Nat} {w w' : World} {T : Nat → Prop} {v : Value} {t : List Pl} (h : FreshT B w v t) (hT : Touch T w w') (hn : ∀ k, B ≤ k → ¬ T k) : FreshT B w' v t :=
  ⟨row_touch h.rows hT (fun k hk => hn k (h.own k hk)), h.own, fun x hx => (h.data x hx).touch hT (fun k q => hn k q.1)⟩
theorem FreshT.adds {B : Nat} {w w' : World} {v : Value} {t : List Pl} (h : FreshT B w v t) (hT : Adds w w') : FreshT B w' v t := h.touch hT (fun _ _ => id)
set_option maxRecDepth 100000 in
/-- One more. -/
theorem FreshT.more {B : Nat} {w w1 w2 : World} {v v' : Value} {t : List Pl} {x : Pl} (h : FreshT B w v t) (hA : Adds w w1) (hG : Grew w1 w2 87 v v' (t.length + 1) (t.map GV ++ [GV x])) (hB : B ≤ w.heap.size) (hx : GQ w1 (fun k => B ≤ k ∧ v.ownBlock ≠ some k) x) : FreshT B w2 v' (t ++ [x]) := by
  have hw := hA.size
  have hlt : ∀ k, k < w1.heap.size → v.ownBlock ≠ some k → v'.ownBlock ≠ some k := fun k hk hn c => by
    rcases hG.2.2 with e | e
    · exact hn (by rw [← e]; exact c)
    · rw [e] at c; cases c; omega
  refine ⟨by rw [List.length_append, List.map_append]; exact hG.1, hG.lt (by omega) h.own, fun y hy => ?_⟩
  rcases List.mem_append.1 hy with hy | hy
  · have q := ((h.data y hy).adds hA).mono (Q' := fun k => B ≤ k ∧ v.ownBlock ≠ some k ∧ v'.ownBlock ≠ some k) (fun k hk q => ⟨q.1, q.2, hlt k hk q.2⟩)
    exact (q.touch hG.touch (fun k q => q.2.1)).mono (fun _ _ q => ⟨q.1, q.2.2⟩)
  · obtain rfl := List.mem_singleton.1 hy
    have q := hx.mono (Q' := fun k => B ≤ k ∧ v.ownBlock ≠ some k ∧ v'.ownBlock ≠ some k) (fun k hk q => ⟨q.1, q.2, hlt k hk q.2⟩)
    exact (q.touch hG.touch (fun k q => q.2.1)).mono (fun _ _ q => ⟨q.1, q.2.2⟩)
set_option maxRecDepth 100000 in
/-- A list that was made. -/
theorem Fresh.pl {B : Nat} {w : World} {v : Value} {hs : List Part} (h : Fresh B w v hs) : ∃ a c, v = .slice a hs.length c ∧ GQ w (fun k => B ≤ k) ⟨a, c, hs⟩ := by
  obtain ⟨a, c, e, h1, h2, h3⟩ := own_cq h.rows
  exact ⟨a, c, e, ⟨h3.mono (fun k _ q => h.own k q), h2, fun x hx => (h.data x hx).mono (fun _ _ q => q.1)⟩⟩
def PGroups (w : World) (gs : List (List (List UInt8))) (e : Ending) (w' : World) : Prop := ∃ v t, e = .returned v ∧ Hid (FreshT w.heap.size w' v t ∧ t.map Pl.bs = gs ∧ Adds w w')

end Go.Proofs.YtcablnjhfocogaaDoor

/- Commit. -/
namespace Go.Proofs.YtcablnjhfocogaaDoor
open Go.RowKit

set_option maxRecDepth 100000 in
theorem com_at {w w3 w4 : World} {B l gb n gc : Nat} {g : List UInt8} (ho : w3.ownsRow B 5 1 (.slice (some ⟨gb, 0, none⟩) n gc) n (S g)) (hb : B ≤ gb) (hB : w.heap.size ≤ B) (hl : l < w.heap.size) (h4 : Touch (fun k => k = l) w3 w4) : At w4 (some ⟨gb, 0, none⟩) g :=
  (At.own ho).block (fun b o e hb' => by
    obtain rfl : gb = b := by simpa using congrArg (fun x => x.map Addr.block) e
    exact h4.block gb hb' (fun c => by omega))
set_option maxRecDepth 100000 in
theorem com_tab {w w3 w4 w5 : World} {l p : Nat} (hT : Tab w) (h3 : Adds w w3) (h4 : Touch (fun k => k = l) w3 w4) (h5 : Adds w4 w5) (c0 : w.cell? ⟨l, 0, none⟩ = some (Ptr p)) : Tab w5 := by
  have hne : (0 : Nat) ≠ l := fun e => by
    have q := hT 0 (by decide)
    rw [← e] at c0
    rw [c0] at q
    cases q
  intro j hj
  have q := below_adds h3 (hT j hj)
  have q4 : w4.cell? ⟨0, j, none⟩ = some (.int .u32 ((C.tab.getD j 0 : Nat) : Int)) := by rw [World.cell?_of_block (w := w3) (h4.block 0 (World.block_lt_of_cell? w3 _ q) hne)]; exact q
  exact below_adds h5 q4
set_option maxRecDepth 100000 in
theorem com_touch {w w3 w4 w5 w6 : World} {OL OD OD6 : Nat → Prop} {l : Nat} (ol : OL l) (hlt : ∀ k, OL k ∨ OD k → k < w.heap.size) (h3 : Adds w w3) (h4 : Touch (fun k => k = l) w3 w4) (h5 : Adds w4 w5) (h6 : Touch OD w5 w6) (ho : ∀ k, OD6 k → OD k ∨ (w5.heap.size ≤ k ∧ k < w6.heap.size)) :
    Touch (fun k => OL k ∨ OD k) w w6 ∧ (∀ k, OD6 k → OD k ∨ (w.heap.size ≤ k ∧ k < w6.heap.size)) ∧ ∀ k, OL k → ¬ OD k → ¬ OD6 k := by
  have s3 := h3.size
  have s4 := h4.size
  have s5 := h5.size
  refine ⟨?_, fun k hk => ?_, fun k hl hd c => ?_⟩
  · refine (((h3.mono (fun _ _ c => c.elim)).trans (h4.mono (fun k _ c => by subst c; exact .inl ol))).trans (h5.mono (fun _ _ c => c.elim))).trans (h6.mono (fun k _ c => .inr c))
  · rcases ho k hk with c | c
    · exact .inl c
    · exact .inr ⟨by omega, c.2⟩
  · rcases ho k c with c | c
    · exact hd c
    · have := hlt k (.inl hl); omega
set_option maxRecDepth 100000 in
theorem com_len {L : LS} {hs : List Part} (h : L.Ok) (hb : hs.map (·.bs) = L.G) : hs.length ≤ 10000000 := by
  have h1 := h.us
  have h2 := h.ct
  have h3 : ∀ G : List (List UInt8), G.length ≤ W.usedOf G := fun G => by
    induction G with
    | nil => exact Nat.le_refl _
    | cons g G ih => rw [W.usedOf, List.length_cons]; have := W.secs_pos g.length; omega
  have h4 := h3 L.G
  rw [← hb, List.length_map, hb] at h4
  omega
end Go.Proofs.YtcablnjhfocogaaDoor
