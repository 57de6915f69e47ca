/- Columns: where they lie; what is asked of each. -/
import Derived.Test.YtlgchdpajfmpdaaName
namespace Go.Proofs.Ytlgchdpajfmpdaa
open Go.RowKit

theorem kept {w w' : World} {p : Nat} {o : Obj} (hA : Adds w w') (h : w.heap[p]? = some o) : w'.heap[p]? = some o := by
  rw [hA.block p (lt_of_heap h) id]; exact h
theorem own_keep {w w' : World} {base e size n : Nat} {v : Value} {xs : List Value} (h : w.ownsRow base e size v n xs) (hA : Adds w w') : w'.ownsRow base e size v n xs := by
  refine ⟨h.1, ?_⟩
  rcases h.2 with h | ⟨g, cap, cur, rfl, hb, hg, h3⟩
  · exact .inl h
  · exact .inr ⟨g, cap, cur, rfl, hb, kept hA hg, h3⟩
/-- Where cells lie. -/
def CAt (w : World) (a : Option Addr) (xs : List Value) : Prop := ∀ (j : Nat) (u : Value), xs[j]? = some u → ∃ b o, a = some ⟨b, o, none⟩ ∧ w.cell? ⟨b, o + j, none⟩ = some u
/-- What an own row's cells are. -/
theorem CAt.own {w : World} {base e size g n cap : Nat} {xs : List Value} (h : w.ownsRow base e size (.slice (some ⟨g, 0, none⟩) n cap) n xs) : CAt w (some ⟨g, 0, none⟩) xs := by
  intro j u hj
  rcases h.2 with ⟨e, _⟩ | ⟨g', cap', cur, e', _, hg, _, _, _, ht⟩
  · cases e
  · obtain ⟨rfl, _⟩ : g = g' ∧ cap = cap' := by simpa using e'
    refine ⟨g, 0, rfl, ?_⟩
    rw [cell_of_row w g (0 + j) cur e _ hg, Nat.zero_add, ← Array.getElem?_toList]
    rw [← ht, List.getElem?_take] at hj
    split at hj
    · exact hj
    · cases hj
/-- The cells of a column. -/
def cells2 (c : M.Col) : List Value := [.string ⟨c.1.toArray⟩, .int .i64 c.2]
/-- The cells of columns. -/
def SC : List M.Col → List Value
  | [] => []
  | c :: r => cells2 c ++ SC r
theorem len_SC : ∀ r : List M.Col, (SC r).length = r.length * 2
  | [] => rfl
  | c :: r => by simp only [SC, List.length_append, len_SC r, List.length_cons]; simp only [cells2, List.length_cons, List.length_nil]; omega
theorem SC_append : ∀ r s : List M.Col, SC (r ++ s) = SC r ++ SC s
  | [], s => rfl
  | c :: r, s => by simp only [List.cons_append, SC, SC_append r s, List.append_assoc]
theorem one_SC : ∀ r : List M.Col, ∀ u ∈ SC r, u.oneCell' = true
  | [], u, hu => by cases hu
  | c :: r, u, hu => by
    rcases List.mem_append.1 hu with h | h
    · simp only [cells2, List.mem_cons, List.not_mem_nil, or_false] at h
      rcases h with rfl | rfl <;> rfl
    · exact one_SC r u h
theorem SC_get : ∀ (r : List M.Col) (j : Nat) (c : M.Col), r[j]? = some c → (SC r)[j * 2]? = some (.string ⟨c.1.toArray⟩) ∧ (SC r)[j * 2 + 1]? = some (.int .i64 c.2)
  | [], j, c, h => by simp at h
  | x :: r, 0, c, h => by
    obtain rfl : x = c := by simpa using h
    exact ⟨rfl, rfl⟩
  | x :: r, j + 1, c, h => by
    have ih := SC_get r j c (by simpa using h)
    have e : ∀ k, (SC (x :: r))[(j + 1) * 2 + k]? = (SC r)[j * 2 + k]? := fun k => by
      rw [show (j + 1) * 2 + k = (j * 2 + k) + 2 by omega]; rfl
    exact ⟨(e 0).trans ih.1, (e 1).trans ih.2⟩
/-- Where columns lie. -/
def ColAt (w : World) (a : Option Addr) (cs : List M.Col) : Prop := ∀ (j : Nat) (c : M.Col), cs[j]? = some c → ∃ b o, a = some ⟨b, o, none⟩ ∧ w.cell? ⟨b, o + j * 2, none⟩ = some (.string ⟨c.1.toArray⟩) ∧ w.cell? ⟨b, o + j * 2 + 1, none⟩ = some (.int .i64 c.2)
theorem ColAt.nil (w : World) (a : Option Addr) : ColAt w a [] := by intro j c h; simp at h
theorem ColAt.block {w w' : World} {a : Option Addr} {cs : List M.Col} (h : ColAt w a cs) (hb : ∀ b o, a = some ⟨b, o, none⟩ → b < w.heap.size → w'.heap[b]? = w.heap[b]?) : ColAt w' a cs := by
  intro j c hj
  obtain ⟨b, o, rfl, h0, h1⟩ := h j c hj
  have e := hb b o rfl (World.block_lt_of_cell? w _ h0)
  exact ⟨b, o, rfl, by rw [World.cell?_of_block (w := w) e]; exact h0, by rw [World.cell?_of_block (w := w) e]; exact h1⟩
theorem ColAt.adds {w w' : World} {a : Option Addr} {cs : List M.Col} (h : ColAt w a cs) (hA : Adds w w') : ColAt w' a cs := h.block (fun b _ _ hb => hA.block b hb id)
theorem CAt.cols {w : World} {a : Option Addr} {r : List M.Col} (h : CAt w a (SC r)) : ColAt w a r := by
  intro j c hc
  obtain ⟨g0, g1⟩ := SC_get r j c hc
  obtain ⟨b, o, e, h0⟩ := h _ _ g0
  obtain ⟨b1, o1, e1, h1⟩ := h _ _ g1
  rw [e] at e1
  obtain ⟨rfl, rfl⟩ : b = b1 ∧ o = o1 := by simpa using e1
  exact ⟨b, o, e, h0, by rw [Nat.add_assoc]; exact h1⟩
/-- A block without any of these columns may turn. -/
theorem cell_alloc (w : World) (o : Obj) {p : Addr} {u : Value} (h : w.cell? p = some u) : (w.alloc o).cell? p = some u := by
  rw [World.cell?_of_block (w := w) (((Touch.refl (fun _ => False) w).alloc o).block p.block (World.block_lt_of_cell? w _ h) id)]; exact h

/-- Two cells that lie in a block. -/
theorem two_cells {w w' : World} {p t : Nat} {x y : Value} {fr : Nat × Nat} (hA : Adds w w') (h : w.heap[p]? = some (.cells #[x, y] t fr)) : w'.cell? ⟨p, 0, none⟩ = some x ∧ w'.cell? ⟨p, 1, none⟩ = some y := by
  have h := kept hA h
  have c0 := cellOf h 0
  have c1 := cellOf h 1
  simp at c0 c1
  exact ⟨c0, c1⟩
theorem two_new (w : World) (x y : Value) (t : Nat) {w' : World} (hA : Adds (w.alloc (.cells #[x, y] t)) w') : w'.cell? ⟨w.heap.size, 0, none⟩ = some x ∧ w'.cell? ⟨w.heap.size, 1, none⟩ = some y := two_cells hA (heap_alloc_new w _)

set_option maxHeartbeats 1000000 in
theorem mayNotBe_any (c : M.Col) (w : World) : Calls Try.prog 27 #[.agg #[.string ⟨c.1.toArray⟩, .int .i64 c.2]] w (Tells w (.bool (M.colBad c))) := by
  obtain ⟨s, k⟩ := c
  show Calls Try.prog 27 #[.agg #[.string ⟨s.toArray⟩, .int .i64 k]] w (Tells w (.bool (M.colBad (s, k))))
  obtain ⟨z, hz⟩ : ∃ z, M.name s = z := ⟨_, rfl⟩
  have HN := hid (show ∀ w, Calls Try.prog 8 #[.string ⟨s.toArray⟩] w (Tells w (.bool z)) by rw [← hz]; exact name_any s)
  have HB := hid (fun w' => two_new w (.string ⟨s.toArray⟩) (.int .i64 k) 51 (w' := w'))
  cases z with
  | false =>
    have HF := hid (show M.colBad (s, k) = true by simp [M.colBad, hz])
    clear hz
    go_enter Try.func27, Try.ntmps27
    go_wp2_with (first | (go_at_call 8; refine (HN.out _).mono ?_; rintro e w' ⟨rfl, hA⟩; have A1 := hid hA; clear hA))
    go_ret
    exact ⟨by rw [HF.out]; rfl, ((Touch.refl _ w).alloc _).trans A1.out⟩
  | true =>
    have HF := hid (show M.colBad (s, k) = (decide (k < 1) || decide (4 < k)) by simp [M.colBad, hz])
    clear hz
    go_enter Try.func27, Try.ntmps27
    go_wp2_with (first | (go_at_call 8; refine (HN.out _).mono ?_; rintro e w' ⟨rfl, hA⟩; have A1 := hid hA; obtain ⟨_, c1⟩ := HB.out w' hA; clear hA))
    all_goals go_ret
    all_goals first | exact ⟨by rw [HF.out]; rfl, ((Touch.refl _ w).alloc _).trans A1.out⟩ | exact ⟨by rw [HF.out, decide_eq_true (by assumption)]; rfl, ((Touch.refl _ w).alloc _).trans A1.out⟩
end Go.Proofs.Ytlgchdpajfmpdaa
