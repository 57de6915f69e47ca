/- Texts put together: WGroups, WCom, WFMath, WWhole, WFind0. -/
import Derived.Test.YtmmgfankbabfbaaDoorQ17
import Derived.Test.YtmmgfankbabfbaaDoorQ18
import Derived.Test.YtmmgfankbabfbaaDoorQ20
import Derived.Test.YtmmgfankbabfbaaDoorQ21
import Derived.Test.YtmmgfankbabfbaaDoorQ06
/- What a log tells of its groups. -/
namespace Go.Proofs.YtmmgfankbabfbaaDoor
open Go.RowKit

/-- A list of lists of slices in new memory. -/
structure FreshT (B : Nat) (w : World) (v : Value) (t : List Pl) : Prop where
  rows : w.ownsRow 0 151 1 v t.length (t.map GV)
  own : ∀ k, v.ownBlock = some k → B ≤ k
  data : ∀ g ∈ t, GQ w (fun k => B ≤ k ∧ v.ownBlock ≠ some k) g
theorem FreshT.touch {B : Nat} {w w' : World} {T : Nat → Prop} {v : Value} {t : List Pl} (h : FreshT B w v t) (hT : Touch T w w') (hn : ∀ k, B ≤ k → ¬ T k) : FreshT B w' v t :=
  ⟨row_touch h.rows hT (fun k hk => hn k (h.own k hk)), h.own, fun x hx => (h.data x hx).touch hT (fun k q => hn k q.1)⟩
theorem FreshT.adds {B : Nat} {w w' : World} {v : Value} {t : List Pl} (h : FreshT B w v t) (hT : Adds w w') : FreshT B w' v t := h.touch hT (fun _ _ => id)
set_option maxRecDepth 100000 in
/-- One more. -/
theorem FreshT.more {B : Nat} {w w1 w2 : World} {v v' : Value} {t : List Pl} {x : Pl} (h : FreshT B w v t) (hA : Adds w w1) (hG : Grew w1 w2 151 v v' (t.length + 1) (t.map GV ++ [GV x])) (hB : B ≤ w.heap.size) (hx : GQ w1 (fun k => B ≤ k ∧ v.ownBlock ≠ some k) x) : FreshT B w2 v' (t ++ [x]) := by
  have hw := hA.size
  have hlt : ∀ k, k < w1.heap.size → v.ownBlock ≠ some k → v'.ownBlock ≠ some k := fun k hk hn c => by
    rcases hG.2.2 with e | e
    · exact hn (by rw [← e]; exact c)
    · rw [e] at c; cases c; omega
  refine ⟨by rw [List.length_append, List.map_append]; exact hG.1, hG.lt (by omega) h.own, fun y hy => ?_⟩
  rcases List.mem_append.1 hy with hy | hy
  · have q := ((h.data y hy).adds hA).mono (Q' := fun k => B ≤ k ∧ v.ownBlock ≠ some k ∧ v'.ownBlock ≠ some k) (fun k hk q => ⟨q.1, q.2, hlt k hk q.2⟩)
    exact (q.touch hG.touch (fun k q => q.2.1)).mono (fun _ _ q => ⟨q.1, q.2.2⟩)
  · obtain rfl := List.mem_singleton.1 hy
    have q := hx.mono (Q' := fun k => B ≤ k ∧ v.ownBlock ≠ some k ∧ v'.ownBlock ≠ some k) (fun k hk q => ⟨q.1, q.2, hlt k hk q.2⟩)
    exact (q.touch hG.touch (fun k q => q.2.1)).mono (fun _ _ q => ⟨q.1, q.2.2⟩)
set_option maxRecDepth 100000 in
/-- A list that was made. -/
theorem Fresh.pl {B : Nat} {w : World} {v : Value} {hs : List Part} (h : Fresh B w v hs) : ∃ a c, v = .slice a hs.length c ∧ GQ w (fun k => B ≤ k) ⟨a, c, hs⟩ := by
  obtain ⟨a, c, e, h1, h2, h3⟩ := own_cq h.rows
  exact ⟨a, c, e, ⟨h3.mono (fun k _ q => h.own k q), h2, fun x hx => (h.data x hx).mono (fun _ _ q => q.1)⟩⟩
def PGroups (w : World) (gs : List (List (List UInt8))) (e : Ending) (w' : World) : Prop := ∃ v t, e = .returned v ∧ Hid (FreshT w.heap.size w' v t ∧ t.map Pl.bs = gs ∧ Adds w w')

end Go.Proofs.YtmmgfankbabfbaaDoor

/- Commit. -/
namespace Go.Proofs.YtmmgfankbabfbaaDoor
open Go.RowKit

set_option maxRecDepth 100000 in
theorem com_at {w w3 w4 : World} {B l gb n gc : Nat} {g : List UInt8} (ho : w3.ownsRow B 5 1 (.slice (some ⟨gb, 0, none⟩) n gc) n (S g)) (hb : B ≤ gb) (hB : w.heap.size ≤ B) (hl : l < w.heap.size) (h4 : Touch (fun k => k = l) w3 w4) : At w4 (some ⟨gb, 0, none⟩) g :=
  (At.own ho).block (fun b o e hb' => by
    obtain rfl : gb = b := by simpa using congrArg (fun x => x.map Addr.block) e
    exact h4.block gb hb' (fun c => by omega))
set_option maxRecDepth 100000 in
theorem com_tab {w w3 w4 w5 : World} {l p : Nat} (hT : Tab w) (h3 : Adds w w3) (h4 : Touch (fun k => k = l) w3 w4) (h5 : Adds w4 w5) (c0 : w.cell? ⟨l, 0, none⟩ = some (Ptr p)) : Tab w5 := by
  have hne : (0 : Nat) ≠ l := fun e => by
    have q := hT 0 (by decide)
    rw [← e] at c0
    rw [c0] at q
    cases q
  intro j hj
  have q := below_adds h3 (hT j hj)
  have q4 : w4.cell? ⟨0, j, none⟩ = some (.int .u32 ((C.tab.getD j 0 : Nat) : Int)) := by rw [World.cell?_of_block (w := w3) (h4.block 0 (World.block_lt_of_cell? w3 _ q) hne)]; exact q
  exact below_adds h5 q4
set_option maxRecDepth 100000 in
theorem com_touch {w w3 w4 w5 w6 : World} {OL OD OD6 : Nat → Prop} {l : Nat} (ol : OL l) (hlt : ∀ k, OL k ∨ OD k → k < w.heap.size) (h3 : Adds w w3) (h4 : Touch (fun k => k = l) w3 w4) (h5 : Adds w4 w5) (h6 : Touch OD w5 w6) (ho : ∀ k, OD6 k → OD k ∨ (w5.heap.size ≤ k ∧ k < w6.heap.size)) :
    Touch (fun k => OL k ∨ OD k) w w6 ∧ (∀ k, OD6 k → OD k ∨ (w.heap.size ≤ k ∧ k < w6.heap.size)) ∧ ∀ k, OL k → ¬ OD k → ¬ OD6 k := by
  have s3 := h3.size
  have s4 := h4.size
  have s5 := h5.size
  refine ⟨?_, fun k hk => ?_, fun k hl hd c => ?_⟩
  · refine (((h3.mono (fun _ _ c => c.elim)).trans (h4.mono (fun k _ c => by subst c; exact .inl ol))).trans (h5.mono (fun _ _ c => c.elim))).trans (h6.mono (fun k _ c => .inr c))
  · rcases ho k hk with c | c
    · exact .inl c
    · exact .inr ⟨by omega, c.2⟩
  · rcases ho k c with c | c
    · exact hd c
    · have := hlt k (.inl hl); omega
set_option maxRecDepth 100000 in
theorem com_len {L : LS} {hs : List Part} (h : L.Ok) (hb : hs.map (·.bs) = L.G) : hs.length ≤ 10000000 := by
  have h1 := h.us
  have h2 := h.ct
  have h3 : ∀ G : List (List UInt8), G.length ≤ W.usedOf G := fun G => by
    induction G with
    | nil => exact Nat.le_refl _
    | cons g G ih => rw [W.usedOf, List.length_cons]; have := W.secs_pos g.length; omega
  have h4 := h3 L.G
  rw [← hb, List.length_map, hb] at h4
  omega
end Go.Proofs.YtmmgfankbabfbaaDoor

/- Finding the groups that stand: how many sectors each one has. -/
namespace Go.Proofs.YtmmgfankbabfbaaDoor
namespace W
open M
/-- Where finding is: in the sector i, behind groups of u sectors, with the pieces b. -/
structure FI (i u : Nat) (b : List UInt8) : Prop where
  le : u ≤ i
  len : b.length = 233 * (i - u)
  more : u < i → b.length < need b
theorem FI.start (i : Nat) : FI i i [] := ⟨Nat.le_refl _, by simp, fun h => absurd h (Nat.lt_irrefl _)⟩
set_option maxRecDepth 100000 in
theorem FI.next {i u : Nat} {b c : List UInt8} (h : FI i u b) (hc : c.length = 233) (hn : (b ++ c).length < need (b ++ c)) : FI (i + 1) u (b ++ c) := by
  have h1 := h.le
  have h2 := h.len
  exact ⟨by omega, by rw [List.length_append, hc, h2]; omega, fun _ => hn⟩
set_option maxRecDepth 100000 in
theorem need_ge (b : List UInt8) : 4 ≤ need b := by unfold need; omega
set_option maxRecDepth 100000 in
theorem FI.done {i u : Nat} {b c : List UInt8} (h : FI i u b) (hc : c.length ≤ 233) (hn : (b ++ c).length = need (b ++ c)) : i + 1 = u + secs ((b ++ c).drop 4).length := by
  have h1 := h.le
  have h2 := h.len
  have h4 := need_ge (b ++ c)
  rw [List.length_append] at hn
  have hpos : 0 < c.length := by
    rcases Nat.lt_or_ge u i with hlt | hge
    · have h3 := h.more hlt
      have e : need (b ++ c) = need b := by unfold need; rw [List.take_append_of_le_length (by omega)]
      rw [e] at hn
      omega
    · have : i - u = 0 := by omega
      rw [this] at h2
      omega
  unfold secs
  rw [List.length_drop, List.length_append]
  omega
set_option maxRecDepth 100000 in
theorem oBody_le (s : List UInt8) : (oBody s).length ≤ 233 := by
  unfold oBody
  split
  · rename_i h0
    unfold oErr at h0
    split at h0
    · cases h0
    · split at h0
      · cases h0
      · split at h0
        · cases h0
        · split at h0
          · cases h0
          · split at h0
            · cases h0
            · rename_i h1
              simp only [not_or] at h1
              rw [List.length_take]; omega
  · simp
end W
end Go.Proofs.YtmmgfankbabfbaaDoor

/- How many bytes all pieces of a group have. -/
namespace Go.Proofs.YtmmgfankbabfbaaDoor
open Go.RowKit

set_option maxRecDepth 100000 in
theorem W.need_le (b : List UInt8) : W.need b ≤ 4294967299 := by
  unfold W.need M.fixedR
  have h1 := M.takeR_len (M.clamp 4) ⟨0, b.take 4⟩
  rw [show M.clamp 4 = 4 from rfl] at *
  have h2 := (M.fix_unfix _ (M.takeR 4 ⟨0, b.take 4⟩).1 rfl).2
  have h3 : 256 ^ (M.takeR 4 ⟨0, b.take 4⟩).1.length ≤ 256 ^ 4 := Nat.pow_le_pow_right (by decide) h1
  simp only
  omega
end Go.Proofs.YtmmgfankbabfbaaDoor

/- The groups that stand are found. -/
namespace Go.Proofs.YtmmgfankbabfbaaDoor
open Go.RowKit

/-- The log's sectors. -/
def secOf (D : dSt) (fr : Nat) (i : Nat) : List UInt8 := hasOf D.H D.W ((fr + i : Nat) : Int)
set_option maxRecDepth 100000 in
theorem wp_append_b1 {w : World} {o : Oper} {act : Act} {K : Act → World → Prop} {Q : Exit → Act → World → Prop} (s x : Operand)
    (ho : o.op = .call { callee := .builtin .append, args := #[s, x], argTypes := #[151, 151] }) (v : Value) (n : Nat) (xs : List Value) (hs : act.eval s = v) (hown : w.ownsRow 0 91 1 v n xs)
    (g : Nat) (u : Value) (hx : act.eval x = .slice (some ⟨g, 0, none⟩) 1 1) (hc : w.cell? ⟨g, 0, none⟩ = some u) (hu : u.oneCell' = true) (hlen : n ≤ 10000000)
    (h : ∀ v' w', Grew w w' 91 v v' (n + 1) (xs ++ [u]) → K (act.put o.dst v') w') : o.wp Tryd.prog act w K Q := by
  obtain ⟨i0, hi, hz0, hz1, hz2⟩ := infoB
  refine wp_append_own_at s x 151 ho 0 91 i0 (.slice none 0 0) 1 24 Tryd.underlying151 hi hz0 hz1 hz2 rfl (by decide) v n xs hs hown ⟨g, 0, none⟩ 1 1 [u] hx rfl ?_ (fun y hy => by rw [List.mem_singleton.1 hy]; exact hu) (by unfold maxLen; omega) (by omega) (Nat.zero_le _) (fun v' w' h1 h2 _ h4 => h v' w' ⟨h1, h2, h4⟩)
  intro j y hj
  match j, hj with
  | 0, hj =>
    obtain rfl : u = y := by simpa using hj
    rw [Addr.add_mid]; exact hc
end Go.Proofs.YtmmgfankbabfbaaDoor
