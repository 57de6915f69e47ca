/- Texts put together: WQ2, WQ3. -/
import Derived.Test.YtllkplanjfnnmaaGreatDoorQ28
import Derived.Test.YtllkplanjfnnmaaGreatDoorQ29
/- The reference's log: mark, Append. -/
namespace Go.Proofs.YtllkplanjfnnmaaGreatDoor
open Go.RowKit

set_option maxRecDepth 100000 in
theorem q_mark (q ep i : Nat) (iz : Int) (hiz : iz = (i : Int)) (w : World) (c3 : w.cell? ⟨q, 3, none⟩ = some (.int .i64 (ep : Int))) (he : ep ≤ 1000000000) (hi : i ≤ 10000) (z : Int) (hz : z = (W.mark ep i : Int)) : Calls Tryz.prog 53 #[Ptr q, .int .i64 iz] w (Tells (.int .u64 z) w) := by
  subst hiz
  have HZ := hid (show z = (ep : Int) * 16777216 + (i : Int) + 1 by rw [hz]; unfold W.mark; omega)
  clear hz
  go_enter Tryz.func53, Tryz.ntmps53
  go_wp2_with fail
  go_ret
  refine ⟨?_, rfl⟩
  rw [HZ.out]
  go_num
theorem len_app (x y : List UInt8) : (x ++ y).length = x.length + y.length := List.length_append
set_option maxRecDepth 100000 in
theorem buildBB0 (w : World) : (Instr.buildSlice 61 0 #[]).run Tryz.prog w = .ok (.slice (some ⟨w.heap.size, 0, none⟩) 0 0) (w.alloc (.cells #[] 56)) := by kernel_rfl
set_option maxRecDepth 100000 in
theorem buildB0 (w : World) : (Instr.buildSlice 56 0 #[]).run Tryz.prog w = .ok (.slice (some ⟨w.heap.size, 0, none⟩) 0 0) (w.alloc (.cells #[] 5)) := by kernel_rfl
theorem own_empty (w : World) (e : TypeId) : (w.alloc (.cells #[] e)).ownsRow 0 e 1 (.slice (some ⟨w.heap.size, 0, none⟩) 0 0) 0 [] := World.ownsRow_lit (base := 0) (e := e) (size := 1) w #[] 0 (Nat.zero_le _) (by decide) rfl
/-- The log's box. -/
abbrev QBox (rp : Nat) (L : LS) (vL wv : Value) : Obj := .cells #[Ptr rp, .int .i64 (L.fr : Int), .int .i64 (L.ct : Int), .int .i64 (L.ep : Int), .bool L.cl, vL, wv] 67 (0, 0)
/-- What Append has made: a list of what waited and one more. -/
structure AppQ (w w3 : World) (s : Pl) (v : Value) (bs : List UInt8) : Prop where
  adds : Adds w w3
  new : ∃ x : Part, x.bs = bs ∧ PQ w3 (fun k => w.heap.size ≤ k ∧ k < w3.heap.size) x ∧ w3.ownsRow 0 56 1 v (s.l.length + 1) (s.l.map PV ++ [PV x])
  own : ∀ k, v.ownBlock = some k → w.heap.size ≤ k ∧ k < w3.heap.size
set_option maxRecDepth 100000 in
theorem AppQ.add {w w3 w4 : World} {s : Pl} {v : Value} {bs : List UInt8} (h : AppQ w w3 s v bs) (hA : Adds w3 w4) : AppQ w w4 s v bs := by
  have hs := hA.size
  obtain ⟨x, h1, h2, h3⟩ := h.new
  exact ⟨h.adds.trans hA, ⟨x, h1, (h2.adds hA).mono (fun k _ q => ⟨q.1, by omega⟩), row_touch h3 hA (fun _ _ => id)⟩, fun k hk => ⟨(h.own k hk).1, by have := (h.own k hk).2; omega⟩⟩
set_option maxRecDepth 100000 in
theorem AppQ.of {w w1 w2 w3 : World} {s : Pl} {v1 v2 v3 : Value} {bs : List UInt8} {a2 : Option Addr} {c2 n : Nat} (hn : bs.length = n)
    (h1 : Grew (w.alloc (.cells #[] 56)) w1 56 (.slice (some ⟨w.heap.size, 0, none⟩) 0 0) v1 (0 + s.l.length) ([] ++ s.l.map PV))
    (h2 : Grew (w1.alloc (.cells #[] 5)) w2 5 (.slice (some ⟨w1.heap.size, 0, none⟩) 0 0) v2 (0 + n) ([] ++ S bs)) (hv2 : v2 = .slice a2 n c2)
    (h3 : Grew (w2.alloc (.cells #[.slice a2 n c2] 56)) w3 56 v1 v3 (s.l.length + 1) (s.l.map PV ++ [.slice a2 n c2])) : AppQ w w3 s v3 bs := by
  have z1 := h1.touch.size
  have z2 := h2.touch.size
  have z3 := h3.touch.size
  simp at z1 z2 z3
  have o1 : ∀ k, v1.ownBlock = some k → w.heap.size ≤ k := h1.lt (by simp) (fun k hk => by simp [Value.ownBlock] at hk; omega)
  have o2 : ∀ k, v2.ownBlock = some k → w1.heap.size ≤ k := h2.lt (by simp) (fun k hk => by simp [Value.ownBlock] at hk; omega)
  have o3 : ∀ k, v3.ownBlock = some k → w.heap.size ≤ k := h3.lt (by simp; omega) o1
  have A1 : Adds w w1 := ((Touch.refl _ w).alloc _).then h1.touch (fun k hk c => by simp [Value.ownBlock] at c; omega)
  have A2 : Adds w1 w2 := ((Touch.refl _ w1).alloc _).then h2.touch (fun k hk c => by simp [Value.ownBlock] at c; omega)
  have A3 : Adds w w3 := ((A1.trans A2).trans ((Touch.refl _ w2).alloc _)).then h3.touch (fun k hk c => by have := o1 k c; omega)
  refine ⟨A3, ⟨⟨a2, bs, c2⟩, rfl, ?_, ?_⟩, fun k hk => ⟨o3 k hk, (row_low h3.1 hk).2⟩⟩
  · obtain ⟨a, cap, e, _, hnon, hq⟩ := own_cq h2.1
    rw [hv2, Nat.zero_add] at e
    cases e
    have q : PQ w2 (fun k => w1.heap.size ≤ k) ⟨a2, bs, c2⟩ := ⟨by rw [List.nil_append] at hq; exact hq.mono (fun k _ c => o2 k c), hnon⟩
    have q2 := (q.adds ((Touch.refl _ w2).alloc (.cells #[.slice a2 n c2] 56))).mono (Q' := fun k => (w1.heap.size ≤ k) ∧ v1.ownBlock ≠ some k) (fun k _ c => ⟨c, fun c' => by have := (row_low h1.1 c').2; omega⟩)
    exact (q2.touch h3.touch (fun k c => c.2)).mono (fun k hk c => ⟨by have := A1.size; omega, hk⟩)
  · rw [← hn] at h3
    exact h3.1
set_option maxRecDepth 100000 in
/-- What Append leaves where the list is kept. -/
theorem AppQ.kept {w w4 : World} {OQ : Nat → Prop} {q rp : Nat} {vL v : Value} {t : List Pl} {s : Pl} {L : LS} {bs : List UInt8} (h : IsQ w OQ q rp vL t s L) (hlt : ∀ k, OQ k → k < w.heap.size) (hA : AppQ w w4 s v bs) :
    PIq w OQ q rp { L with R := L.R ++ [bs] } 0 (.returned (.int .i64 0)) (w4.setCell ⟨q, 6, none⟩ v) := by
  obtain ⟨x, h1, h2, h3⟩ := hA.new
  have hq := hlt q h.oq
  have hb4 : w4.heap[q]? = some (QBox rp L vL (GV s)) := hA.adds.at' h.box id
  have hT : Touch (fun k => k = q) w4 (w4.setCell ⟨q, 6, none⟩ v) := Touch.setCell (T := fun k => k = q) (Touch.refl _ w4) (p := ⟨q, 6, none⟩) (fun _ => rfl) _
  have hs := hT.size
  obtain ⟨a, cap, e, _, hnon, hcq⟩ := own_cq h3
  have hl4 := hA.adds.size
  have hvL : ∀ k, w.heap.size ≤ k → vL.ownBlock ≠ some k := fun k hk c => by have := (row_low h.rows c).2; omega
  refine ⟨rfl, fun k => OQ k ∨ (w.heap.size ≤ k ∧ k < w4.heap.size), vL, t, ⟨a, cap, s.l ++ [x]⟩, ⟨?_, ?_, .inl h.oq, fun k hk => .inl (h.ol k hk), ?_, ?_, h.same, ?_⟩, ?_, fun k c => ?_⟩
  · rw [setCell_eq_setRow w4 q 6 _ 67 _ _ hb4, setRow_heap w4 q _ _ 67 _ hb4, e]
    simp only [GV, List.length_append, List.length_singleton]
    rfl
  · exact row_touch (row_touch h.rows hA.adds (fun _ _ => id)) hT (fun k hk c => h.apart (by rw [← c]; exact hk))
  · intro g hg
    exact (((h.data g hg).adds hA.adds).touch hT (fun k c => c.2.2)).mono (fun k _ c => ⟨.inl c.1, c.2⟩)
  · refine ⟨?_, hnon, fun y hy => ?_⟩
    · rw [List.map_append]
      exact ((hcq.mono (Q' := fun k => (OQ k ∨ (w.heap.size ≤ k ∧ k < w4.heap.size)) ∧ vL.ownBlock ≠ some k ∧ k ≠ q) (fun k _ c => by
        have q1 := hA.own k c
        exact ⟨.inr q1, hvL k q1.1, by omega⟩)).touch hT (fun k c => c.2.2))
    · rcases List.mem_append.1 hy with hy | hy
      · exact (((h.wait.all y hy).adds hA.adds).touch hT (fun k c => c.2.2)).mono (fun k _ c => ⟨.inl c.1, c.2⟩)
      · obtain rfl := List.mem_singleton.1 hy
        exact (h2.mono (Q' := fun k => (OQ k ∨ (w.heap.size ≤ k ∧ k < w4.heap.size)) ∧ vL.ownBlock ≠ some k ∧ k ≠ q) (fun k _ c => ⟨.inr c, hvL k c.1, by omega⟩)).touch hT (fun k c => c.2.2)
  · show (s.l ++ [x]).map (·.bs) = L.R ++ [bs]
    rw [List.map_append, ← h.rest, ← h1]; rfl
  · exact (hA.adds.mono (fun _ _ c => c.elim)).trans (hT.mono (fun k _ c => by subst c; exact h.oq))
  · rcases c with c | c
    · exact .inl c
    · exact .inr ⟨c.1, by omega⟩
set_option maxRecDepth 100000 in
theorem q_append_no {w : World} {OQ : Nat → Prop} {q rp : Nat} {vL : Value} {t : List Pl} {s : Pl} {L : LS} (h : IsQ w OQ q rp vL t s L) (a : Option Addr) (n cap : Nat) (z : Int) (hz : (L.cl = true ∧ z = 42) ∨ (L.cl = false ∧ 4096 < n ∧ n ≤ 1000000 ∧ z = 3)) : Calls Tryz.prog 23 #[Ptr q, .slice a n cap] w (PIq w OQ q rp L z) := by
  have HQ := hid h
  have c4 : w.cell? ⟨q, 4, none⟩ = some (.bool L.cl) := by have c := cellOf h.box 4; simpa using c
  clear h
  rcases hz with ⟨h1, rfl⟩ | ⟨h1, h2, h3, rfl⟩
  · rw [h1] at c4
    go_enter Tryz.func23, Tryz.ntmps23
    go_wp2_with fail
    go_ret
    exact PIq.same HQ.out (Touch.refl _ _) 42
  · rw [h1] at c4
    have h4 : (4096 : Int) < (n : Int) := by omega
    go_enter Tryz.func23, Tryz.ntmps23
    go_wp2_with fail
    go_ret
    exact PIq.same HQ.out (Touch.refl _ _) 3
set_option maxRecDepth 100000 in
set_option maxHeartbeats 2000000 in
theorem q_append_yes {w : World} {OQ : Nat → Prop} {q rp : Nat} {vL : Value} {t : List Pl} {s : Pl} {L : LS} (h : IsQ w OQ q rp vL t s L) (hlt : ∀ k, OQ k → k < w.heap.size) (hk : L.Ok) (hct : L.ct ≤ 1000) (hcl : L.cl = false) (ad : Addr) (bs : List UInt8) (n cap : Nat) (hn : bs.length = n) (hA : At w (some ad) bs) (hb : n ≤ 4096) :
    Calls Tryz.prog 23 #[Ptr q, .slice (some ad) n cap] w (PIq w OQ q rp (appL L bs) (appE L bs)) := by
  obtain ⟨m, hm⟩ : ∃ m, m = s.l.length := ⟨_, rfl⟩
  have hmR : m = L.R.length := by rw [hm, ← h.rest, Pl.bs, List.length_map]
  have htx : (W.texts L.R).length ≤ 233000 := by
    by_cases hR : L.R = []
    · rw [hR]; simp [W.texts]
    · have h1 := secs_len (hk.wt hR)
      have h2 := texts_le L.R
      omega
  have hm2 : m ≤ 233000 := by have := W.texts_len L.R; omega
  obtain ⟨us, hus⟩ : ∃ us, us = W.usedOf L.G := ⟨_, rfl⟩
  have hus2 : us ≤ L.ct := by rw [hus]; exact hk.us
  obtain ⟨sc, hsc⟩ : ∃ sc, sc = W.secs (W.gbytes (L.R ++ [bs])).length := ⟨_, rfl⟩
  have hgl : (W.gbytes (L.R ++ [bs])).length ≤ 300000 := by
    have e1 : (W.gbytes (L.R ++ [bs])).length = (M.enc (L.R ++ [bs]).length).length + ((W.texts L.R).length + ((M.enc bs.length).length + bs.length)) := by
      rw [W.gbytes, W.texts_app, W.texts_one, W.text, len_app (M.enc (L.R ++ [bs]).length), len_app (W.texts L.R), len_app (M.enc bs.length)]
    have h1 := M.len_enc10 (n := (L.R ++ [bs]).length) (by simp; omega)
    have h2 := M.len_enc10 (n := bs.length) (by omega)
    omega
  have hsc2 : sc ≤ 2000 := by rw [hsc]; unfold W.secs; omega
  obtain ⟨bz, hbz⟩ : ∃ bz, bz = decide ((L.ct : Int) - us < sc) := ⟨_, rfl⟩
  have HE0 := hid (show bz = false → appE L bs = 0 ∧ appL L bs = { L with R := L.R ++ [bs] } from fun c => by
    rw [c] at hbz
    have h1 : ¬ ((L.ct : Int) - us < sc) := by simpa using hbz.symm
    have h2 : appE L bs = 0 := by rw [appE, hcl, if_neg (by decide), if_neg (by omega), if_pos (by rw [← hsc, ← hus]; omega)]
    exact ⟨h2, by rw [appL, if_pos h2]⟩)
  have HE1 := hid (show bz = true → appE L bs = 31 ∧ appL L bs = L from fun c => by
    rw [c] at hbz
    have h1 : (L.ct : Int) - us < sc := by simpa using hbz.symm
    have h2 : appE L bs = 31 := by rw [appE, hcl, if_neg (by decide), if_neg (by omega), if_neg (by rw [← hsc, ← hus]; omega)]
    exact ⟨h2, by rw [appL, h2, if_neg (by decide)]⟩)
  have HBox := hid (show w.heap[q]? = some (.cells #[Ptr rp, .int .i64 (L.fr : Int), .int .i64 (L.ct : Int), .int .i64 (L.ep : Int), .bool false, vL, .slice s.a m s.cap] 67 (0, 0)) by rw [hm, ← hcl]; exact h.box)
  have HS := hid (fun (w' : World) (v : Value) (a' : Option Addr) (c' : Nat) (hv : v = .slice a' (m + 1) c') (hA : AppQ w w' s v bs) => show Calls Tryz.prog 50 #[.slice a' (m + 1) c'] w' (Adding (.int .i64 (sc : Int)) w') by
    obtain ⟨x, h1, h2, h3⟩ := hA.new
    obtain ⟨a2, c2, e, _, hnon, hcq⟩ := own_cq h3
    rw [hv] at e
    simp only [Value.slice.injEq] at e
    obtain ⟨rfl, _, rfl⟩ := e
    have hb2 : (⟨a', c', s.l ++ [x]⟩ : Pl).bs = L.R ++ [bs] := by
      show (s.l ++ [x]).map (·.bs) = L.R ++ [bs]
      rw [List.map_append, ← h.rest, ← h1]; rfl
    have q1 := sectors8_any (Q := fun _ => True) ⟨a', c', s.l ++ [x]⟩ (m + 1) (by simp [hm]) w' ⟨by rw [List.map_append]; exact hcq.mono (fun _ _ _ => trivial), hnon, fun y hy => by
      rcases List.mem_append.1 hy with hy | hy
      · exact ((h.wait.all y hy).adds hA.adds).mono (fun _ _ _ => trivial)
      · obtain rfl := List.mem_singleton.1 hy
        exact h2.mono (fun _ _ _ => trivial)⟩ (by rw [hb2]; have := texts_le (L.R ++ [bs]); omega)
    rw [hb2, ← hsc] at q1
    exact q1)
  have HU := hid (fun (w' : World) (hA : Adds w w') => show Calls Tryz.prog 35 #[Ptr q] w' (Adding (.int .i64 (us : Int)) w') by rw [hus]; exact q_used (h.add hA) hk hct)
  have HK := hid (fun (w4 : World) (v : Value) (hA : AppQ w w4 s v bs) => AppQ.kept h hlt hA)
  have HN := hid (fun (w4 : World) (hA : Adds w w4) => PIq.same h hA 31)
  have HW := hid h.wait
  have HAt := hid hA
  have HM := hid (And.intro hm hn)
  have hbb0 := fun w => buildBB0 w
  have hb0 := fun w => buildB0 w
  have c4 : w.cell? ⟨q, 4, none⟩ = some (.bool false) := cellOf HBox.out 4
  have h' : ¬ (4096 : Int) < (n : Int) := by omega
  have c6 : (w.alloc (.cells #[] 56)).cell? ⟨q, 6, none⟩ = some (.slice s.a m s.cap) := below_adds ((Touch.refl _ w).alloc _) (cellOf HBox.out 6)
  have HSz := hid (show L.ct ≤ 1000 ∧ us ≤ 1000 ∧ sc ≤ 2000 from ⟨hct, by omega, hsc2⟩)
  have HBZ := hid hbz
  clear h hlt hk hcl hA hb hn hm hmR htx hus hsc hgl hbz hus2
  generalize L.ct = ct at *
  go_enter Tryz.func23, Tryz.ntmps23
  go_upto_region 6 with (first
    | (at_builtin; refine append_b1 rfl _ _ rfl (.slice va m vc) m (s.l.map PV) rfl (show (w2.alloc (.cells #[.slice xa n xc] 56)).ownsRow 0 56 1 (.slice va m vc) m (s.l.map PV) from R2.out) w2.heap.size (.slice xa n xc) rfl (cellOf (heap_alloc_new w2 _) 0) rfl (by omega) ?_; intro v3 w3 G3
       obtain ⟨ya, yc, hv3, _, _, _⟩ := own_cq G3.1
       have HA3 := hid (AppQ.of HM.out.2 (by rw [← HM.out.1]; exact HG1.out) HG2.out HV2.out (by rw [← HM.out.1]; exact G3))
       have HV3 := hid hv3
       subst hv3
       clear G3)
    | (at_builtin; refine append_t rfl _ _ rfl (.slice (some ⟨w1.heap.size, 0, none⟩) 0 0) 0 [] rfl (own_empty w1 5) ad bs n cap HM.out.2 rfl (HAt.out.adds (HA1.out.alloc _)) (by omega) ?_; intro v2 w2 G2
       obtain ⟨xa, xc, hv2, _, _, _⟩ := own_cq G2.1
       rw [Nat.zero_add] at hv2
       have HG2 := hid G2
       have HV2 := hid hv2
       have R2 := hid (show (w2.alloc (.cells #[.slice xa n xc] 56)).ownsRow 0 56 1 (.slice va m vc) m (s.l.map PV) from row_touch (row_touch (row_touch (row_touch R1.out ((Touch.refl (fun _ => False) w1).alloc _) (fun _ _ => id)) G2.touch (fun k hk c => by simp [Value.ownBlock] at c; have := (row_low R1.out hk).2; omega)) ((Touch.refl (fun _ => False) w2).alloc _) (fun _ _ => id)) (Touch.refl (fun _ => False) _) (fun _ _ => id))
       subst hv2
       clear G2)
    | (at_builtin; refine append_bm rfl _ _ rfl (.slice (some ⟨w.heap.size, 0, none⟩) 0 0) 0 [] rfl (own_empty w 56) s.a m s.cap (s.l.map PV) (by rw [List.length_map, HM.out.1]) rfl HW.out.non (HW.out.at_.adds ((Touch.refl _ w).alloc _)) (one_PV s.l) (by omega) ?_; intro v1 w1 G1
       obtain ⟨va, vc, hv1, _, _, _⟩ := own_cq G1.1
       rw [Nat.zero_add] at hv1
       have HG1 := hid G1
       have HA1 := hid (show Adds w w1 from ((Touch.refl _ w).alloc _).then G1.touch (fun k hk c => by simp [Value.ownBlock] at c; omega))
       have R1 := hid (show w1.ownsRow 0 56 1 (.slice va m vc) m (s.l.map PV) by have q := G1.1; rw [List.nil_append, Nat.zero_add, hv1] at q; exact q)
       subst hv1
       clear G1))
  have HB3 := hid (HA3.out.adds.at' HBox.out id)
  refine H_begin (S := fun w' : World => w'.heap[q]? = some (.cells #[Ptr rp, .int .i64 (L.fr : Int), .int .i64 (ct : Int), .int .i64 (L.ep : Int), .bool false, vL, .slice s.a m s.cap] 67 (0, 0))) (by kernel_rfl) ?_
  have hS : (fun w' : World => w'.heap[q]? = some (.cells #[Ptr rp, .int .i64 (L.fr : Int), .int .i64 (ct : Int), .int .i64 (L.ep : Int), .bool false, vL, .slice s.a m s.cap] 67 (0, 0))) w3.drew := HB3.out
  refine H_put (i := 0) 24 (v := .slice ya (m + 1) yc) rfl rfl (by kernel_rfl) (by kernel_rfl) (by kernel_rfl) (fun _ _ _ h => h) (Or.inl ⟨by rfl, fun w' hw' => ?_⟩) hS ?_
  · go_simp
  simp only [Act.put, List.setIfInBounds_toArray, List.set_cons_zero, List.set_cons_succ]
  refine H_put (i := 2) 26 (v := Ptr q) rfl rfl (by kernel_rfl) (by kernel_rfl) (by kernel_rfl) (fun _ _ _ h => h) (Or.inl ⟨by rfl, fun w' hw' => ?_⟩) hS ?_
  · go_simp
  simp only [Act.put, List.setIfInBounds_toArray, List.set_cons_zero, List.set_cons_succ]
  refine H_put (i := 3) 27 (v := Ptr q) rfl rfl (by kernel_rfl) (by kernel_rfl) (by kernel_rfl) (fun _ _ _ h => h) (Or.inl ⟨by rfl, fun w' hw' => ?_⟩) hS ?_
  · go_simp
  simp only [Act.put, List.setIfInBounds_toArray, List.set_cons_zero, List.set_cons_succ]
  refine H_put (i := 4) 28 (v := .pointer (some ⟨q, 2, none⟩)) rfl rfl (by kernel_rfl) (by kernel_rfl) (by kernel_rfl) (fun _ _ _ h => h) (Or.inl ⟨by rfl, fun w' hw' => ?_⟩) hS ?_
  · go_simp
  simp only [Act.put, List.setIfInBounds_toArray, List.set_cons_zero, List.set_cons_succ]
  refine H_put (i := 5) 29 (v := .int .i64 (ct : Int)) rfl rfl (by kernel_rfl) (by kernel_rfl) (by kernel_rfl) (fun _ _ _ h => h) (Or.inl ⟨by rfl, fun w' hw' => ?_⟩) hS ?_
  · have c : w'.cell? ⟨q, 2, none⟩ = some (.int .i64 (ct : Int)) := cellOf (hw') 2; go_simp
  simp only [Act.put, List.setIfInBounds_toArray, List.set_cons_zero, List.set_cons_succ]
  refine H_put (i := 6) 30 (v := Ptr q) rfl rfl (by kernel_rfl) (by kernel_rfl) (by kernel_rfl) (fun _ _ _ h => h) (Or.inl ⟨by rfl, fun w' hw' => ?_⟩) hS ?_
  · go_simp
  simp only [Act.put, List.setIfInBounds_toArray, List.set_cons_zero, List.set_cons_succ]
  refine H_call (i := 1) 25 50 #[.slice ya (m + 1) yc] (by kernel_rfl) rfl rfl (by rfl) (by go_simp) (HS.out w3.drew _ ya yc rfl (HA3.out.add (Touch.refl _ w3).drew)) ?_
  rintro e w4 ⟨rfl, A4⟩
  have HA4 := hid (HA3.out.add ((Touch.refl _ w3).drew.trans A4))
  clear A4
  have hS2 : (fun w' : World => w'.heap[q]? = some (.cells #[Ptr rp, .int .i64 (L.fr : Int), .int .i64 (ct : Int), .int .i64 (L.ep : Int), .bool false, vL, .slice s.a m s.cap] 67 (0, 0))) _ := HA4.out.adds.at' HBox.out id
  refine ⟨_, _, rfl, hS2, fun w' h => h, ?_⟩
  clear hS; have hS := hS2; clear hS2
  simp only [Act.put, List.setIfInBounds_toArray, List.set_cons_zero, List.set_cons_succ]
  refine H_call (i := 7) 31 35 #[Ptr q] (by kernel_rfl) rfl rfl (by rfl) (by go_simp) (HU.out w4 HA4.out.adds) ?_
  rintro e w5 ⟨rfl, A5⟩
  have HA5 := hid (HA4.out.add A5)
  clear A5
  have hS2 : (fun w' : World => w'.heap[q]? = some (.cells #[Ptr rp, .int .i64 (L.fr : Int), .int .i64 (ct : Int), .int .i64 (L.ep : Int), .bool false, vL, .slice s.a m s.cap] 67 (0, 0))) _ := HA5.out.adds.at' HBox.out id
  refine ⟨_, _, rfl, hS2, fun w' h => h, ?_⟩
  clear hS; have hS := hS2; clear hS2
  simp only [Act.put, List.setIfInBounds_toArray, List.set_cons_zero, List.set_cons_succ]
  refine H_put (i := 8) 32 (v := .int .i64 ((ct : Int) - us)) rfl rfl (by kernel_rfl) (by kernel_rfl) (by kernel_rfl) (fun _ _ _ h => h) (Or.inl ⟨by rfl, fun w' hw' => ?_⟩) hS ?_
  · go_simp; rw [IntKind.wrap_i64]; have := HSz.out; omega
  simp only [Act.put, List.setIfInBounds_toArray, List.set_cons_zero, List.set_cons_succ]
  refine H_put (i := 9) 33 (v := .bool bz) rfl rfl (by kernel_rfl) (by kernel_rfl) (by kernel_rfl) (fun _ _ _ h => h) (Or.inl ⟨by rfl, fun w' hw' => ?_⟩) hS ?_
  · go_simp; rw [HBZ.out]
  simp only [Act.put, List.setIfInBounds_toArray, List.set_cons_zero, List.set_cons_succ]
  refine wpAnyH_done (by kernel_rfl) ?_ _
  have c65 : w5.cell? ⟨q, 6, none⟩ = some (.slice s.a m s.cap) := cellOf (HA5.out.adds.at' HBox.out id) 6
  have f65 : w5.frozen? ⟨q, 6, none⟩ = false := frozen_of_row w5 q 6 _ 67 (HA5.out.adds.at' HBox.out id)
  cases bz with
  | true =>
    go_wp2_with fail
    go_ret
    rw [(HE1.out (by first | trivial | rfl)).1, (HE1.out (by first | trivial | rfl)).2]
    exact HN.out w5 HA5.out.adds
  | false =>
    go_wp2_with fail
    go_ret
    rw [(HE0.out (by first | trivial | rfl)).1, (HE0.out (by first | trivial | rfl)).2]
    exact HK.out w5 _ HA5.out
set_option maxRecDepth 100000 in
theorem q_append {w : World} {OQ : Nat → Prop} {q rp : Nat} {vL : Value} {t : List Pl} {s : Pl} {L : LS} (h : IsQ w OQ q rp vL t s L) (hlt : ∀ k, OQ k → k < w.heap.size) (hk : L.Ok) (hct : L.ct ≤ 1000) (ad : Addr) (bs : List UInt8) (n cap : Nat) (hn : bs.length = n) (hA : At w (some ad) bs) (hb : n ≤ 1000000) :
    Calls Tryz.prog 23 #[Ptr q, .slice (some ad) n cap] w (PIq w OQ q rp (appL L bs) (appE L bs)) := by
  by_cases hcl : L.cl = true
  · have e : appE L bs = 42 := by rw [appE, if_pos hcl]
    rw [appL, e, if_neg (by decide)]
    exact q_append_no h (some ad) n cap 42 (.inl ⟨hcl, rfl⟩)
  · have hcl' : L.cl = false := by simpa using hcl
    by_cases hb2 : 4096 < n
    · have e : appE L bs = 3 := by rw [appE, if_neg hcl, if_pos (by omega)]
      rw [appL, e, if_neg (by decide)]
      exact q_append_no h (some ad) n cap 3 (.inr ⟨hcl', hb2, hb, rfl⟩)
    · exact q_append_yes h hlt hk hct hcl' ad bs n cap hn hA (by omega)
end Go.Proofs.YtllkplanjfnnmaaGreatDoor

/- The reference's parse: a group's records. -/
namespace Go.Proofs.YtllkplanjfnnmaaGreatDoor
open Go.RowKit

set_option maxRecDepth 100000 in
theorem IsS.aboveQ {w w' : World} {T : Nat → Prop} {p : Nat} {s : M.St} (h : IsS w p s) (hT : Touch T w w') (hp : ∀ k, T k → p < k) : IsS w' p s := by
  obtain ⟨a, cap, hb, hL⟩ := h.box
  exact ⟨⟨a, cap, hT.at' hb (fun c => by have := hp p c; omega), ⟨hL.at_.block (fun b o e hb => hT.block b hb (fun c => by have h1 : b < p := (hL.low _ e).2; have := hp b c; omega)), hL.room, hL.non, hL.low⟩⟩, h.good, h.len, h.err⟩
set_option maxRecDepth 100000 in
theorem build_R (a : Option Addr) (n cap : Nat) (w : World) : (Instr.build 126 #[(0, .slice a n cap)]).run Tryz.prog w = .ok (.agg #[.slice a n cap, .int .i64 0]) w := by kernel_rfl
set_option maxRecDepth 100000 in
theorem boxed_R {w : World} {a : Option Addr} {g : List UInt8} {n cap : Nat} (hn : g.length = n) (hl : n ≤ 4096) (hL : Lies w w.heap.size a g cap) : IsS (w.alloc (.cells #[.slice a n cap, .int .i64 0] 126)) w.heap.size ⟨0, g⟩ := by
  refine ⟨⟨a, cap, ?_, hL.adds ((Touch.refl _ w).alloc _)⟩, fun h => absurd rfl h, by show g.length ≤ _; omega, by show 0 ≤ 100; decide⟩
  have q := heap_alloc_new w (.cells #[.slice a n cap, .int .i64 0] 126)
  rw [← hn] at q ⊢
  exact q
/-- What parse tells. -/
def PPar (w : World) (ls : List (List UInt8)) (e : Ending) (w' : World) : Prop := ∃ v hs, e = .returned v ∧ Hid (Fresh w.heap.size w' v hs ∧ hs.map (·.bs) = ls ∧ Adds w w' ∧ (ls = [] → v = .slice none 0 0))
set_option maxRecDepth 100000 in
set_option maxHeartbeats 2000000 in
theorem parse_any (a : Option Addr) (g : List UInt8) (n cap : Nat) (hn : g.length = n) (w : World) (hl : n ≤ 4096) (hL : Lies w w.heap.size a g cap) : Calls Tryz.prog 79 #[.slice a n cap] w (PPar w (W.recs g)) := by
  obtain ⟨s0, hs0⟩ : ∃ s0, s0 = (M.uintR g.length ⟨0, g⟩).2 := ⟨_, rfl⟩
  obtain ⟨N, hN⟩ : ∃ N, N = (M.uintR g.length ⟨0, g⟩).1 := ⟨_, rfl⟩
  have hN1 : N ≤ n := by rw [hN, ← hn]; exact (M.uintR_lt _ _).2
  have HB := hid (boxed_R hn hl hL)
  have HU := hid (fun w1 p (h : IsS w1 p ⟨0, g⟩) => show Calls Tryz.prog 106 #[Ptr p, .int .u64 (n : Int)] w1 (PS w1 p (.int .u64 (N : Int)) s0) by rw [hN, hs0, ← hn]; exact ruint_any g.length h)
  have HT := hid (fun w1 p s (h : IsS w1 p s) => show Calls Tryz.prog 107 #[Ptr p, .int .i64 4096] w1 (PS w1 p (.string ⟨(M.textR 4096 s).1.toArray⟩) (M.textR 4096 s).2) from rtext_any 4096 (by decide) h)
  have HE := hid (fun w1 p s (h : IsS w1 p s) => rend_any h)
  have HQ := hid (show W.recs g = if M.endE (W.stN 4096 s0 N) = 0 then W.lsN 4096 s0 N else [] by
    rw [W.recs, W.recsM_most (m2 := 4096) (Int.le_refl _) (by omega) (by omega) (by decide), W.recsM, hN, hs0])
  have hbR := fun w => build_R a n cap w
  have HA0 := hid (show Adds w (w.alloc (.cells #[.slice a n cap, .int .i64 0] 126)) from (Touch.refl _ w).alloc _)
  obtain ⟨p, hp⟩ : ∃ p, p = w.heap.size := ⟨_, rfl⟩
  have HP := hid hp
  clear hL hs0 hN hn
  go_enter Tryz.func79, Tryz.ntmps79
  go_wp2_with (first
    | (go_at_call 106; refine (HU.out _ w.heap.size HB.out).mono ?_; rintro e w2 ⟨rfl, hr2, hT2⟩; rw [← HP.out] at hr2 hT2; have H2 := hid (And.intro hr2 (Adds.own HA0.out hT2 (Nat.le_of_eq HP.out.symm))); clear hr2 hT2))
  rw [← hp]
  clear hp
  go_loopw [5, 6] (fun v i wr => ∃ (k : Nat) (hs : List Part), k ≤ N ∧ i = .int .i64 (k : Int) ∧ hs.length = k ∧ Hid (Fresh (p + 1) wr v hs ∧ hs.map (·.bs) = W.lsN 4096 s0 k ∧ IsS wr p (W.stN 4096 s0 k) ∧ Adds w wr)) (fun _ i _ => N - (intOf i).toNat)
  case atStart => exact ⟨0, [], by omega, rfl, rfl, Fresh.nil _ _, rfl, H2.out.1, H2.out.2⟩
  case round =>
    obtain ⟨k, hs, hk, rfl, hlen, HI⟩ := hrel
    obtain ⟨oa, oc, ho, _, _, _⟩ := own_cq HI.out.1.rows
    by_cases hlt : k < N
    · obtain ⟨t, ht⟩ : ∃ t, t = (M.textR 4096 (W.stN 4096 s0 k)).1 := ⟨_, rfl⟩
      have HX := hid (HT.out wr p _ HI.out.2.2.1)
      rw [← ht] at HX
      have HL := hid (And.intro ht hlen)
      clear ht hlen ho
      go_wp2_with (first
        | (go_at_call 107; refine HX.out.mono ?_; rintro e w3 ⟨rfl, hr3, hT3⟩
           obtain ⟨cx, w4, hrx, hpx, hAx⟩ := str_part t w3
           have hF3 := HI.out.1.touch hT3 (fun k hk c => by simp only [Own1, Value.pointer.injEq, Option.some.injEq, Addr.mk.injEq] at c; omega)
           have HA3 := hid (show (w4.alloc (.cells #[.slice (some ⟨w3.heap.size, 0, none⟩) t.length cx] 56)).ownsRow 0 56 1 u5 k (hs.map PV) by have q := row_touch hF3.rows (hAx.alloc (.cells #[.slice (some ⟨w3.heap.size, 0, none⟩) t.length cx] 56)) (fun _ _ => id); rw [HL.out.2] at q; exact q)
           have HA4 := hid (show (w4.alloc (.cells #[.slice (some ⟨w3.heap.size, 0, none⟩) t.length cx] 56)).cell? ⟨w4.heap.size, 0, none⟩ = some (.slice (some ⟨w3.heap.size, 0, none⟩) t.length cx) from cellOf (heap_alloc_new w4 _) 0)
           have H3 := hid (And.intro hr3 (And.intro hF3 (And.intro hpx (And.intro hAx (Adds.own HI.out.2.2.2 hT3 (Nat.le_of_eq HP.out.symm))))))
           clear hr3 hT3 hpx hAx hF3)
        | (at_builtin; refine append_b1 rfl _ _ rfl u5 k (hs.map PV) rfl HA3.out w4.heap.size (.slice (some ⟨w3.heap.size, 0, none⟩) t.length cx) rfl HA4.out rfl (by omega) ?_; intro v5 w5 G5; have HG := hid G5; clear G5))
      go_roundw
      case rel =>
        obtain ⟨hr3, hF3, hpx, hAx, hA3⟩ := H3.out
        have hAy : Adds w3 (w4.alloc (.cells #[.slice (some ⟨w3.heap.size, 0, none⟩) t.length cx] 56)) := hAx.alloc _
        have hp3 : p < w3.heap.size := hr3.lt
        have hG := HG.out
        refine ⟨k + 1, hs ++ [⟨some ⟨w3.heap.size, 0, none⟩, t, cx⟩], by omega, by go_num, by simp [HL.out.2], ?_, ?_, ?_, ?_⟩
        · refine hF3.more hAy (by rw [HL.out.2]; exact hG) hp3 ?_
          exact (hpx.adds ((Touch.refl _ w4).alloc _)).mono (fun j _ q => ⟨by omega, fun c => by have := (row_low hF3.rows c).2; omega⟩)
        · rw [List.map_append, HI.out.2.1, W.lsN, ← HL.out.1]; rfl
        · exact (hr3.aboveQ hAy (fun _ c => c.elim)).aboveQ hG.touch (fun j c => hF3.own j c)
        · exact (hA3.trans hAy).then hG.touch (fun j hj c => by have := hF3.own j c; have := HP.out; omega)
      case measure => simp [intOf]; omega
    · obtain rfl : k = N := by omega
      rw [hlen] at ho
      subst ho
      have HX := hid (HE.out wr p _ HI.out.2.2.1)
      by_cases hz : M.endE (W.stN 4096 s0 k) = 0
      · rw [hz] at HX
        have HW := hid (show W.recs g = W.lsN 4096 s0 k by rw [HQ.out, if_pos hz])
        by_cases hk0 : k = 0
        · subst hk0
          clear hz
          go_wp2_with (first | (go_at_call 108; refine HX.out.mono ?_; rintro e _ ⟨rfl, hw⟩; rw [hw]; clear hw))
          go_ret
          exact ⟨_, [], rfl, Fresh.nil _ _, by rw [HW.out]; rfl, HI.out.2.2.2, fun _ => rfl⟩
        · have hk1 : ((k : Int) == 0) = false := by simpa using hk0
          have hk2 : (k == 0) = false := by simpa using hk0
          have HK := hid hk0
          clear hz hk0
          go_wp2_with (first | (go_at_call 108; refine HX.out.mono ?_; rintro e _ ⟨rfl, hw⟩; rw [hw]; clear hw))
          go_ret
          exact ⟨_, hs, rfl, HI.out.1.low (by have := HP.out; omega), by rw [HW.out]; exact HI.out.2.1, HI.out.2.2.2, fun c => absurd (by rw [HW.out] at c; have q := W.lsN_len 4096 s0 k; rw [c] at q; exact q.symm) HK.out⟩
      · have HW := hid (show W.recs g = [] by rw [HQ.out, if_neg hz])
        obtain ⟨z, hz2⟩ : ∃ z, z = M.endE (W.stN 4096 s0 k) := ⟨_, rfl⟩
        rw [← hz2] at HX hz
        have hz' : ((z : Int) != 0) = true := by simp only [bne_iff_ne, ne_eq]; omega
        clear hz hz2
        go_wp2_with (first | (go_at_call 108; refine HX.out.mono ?_; rintro e _ ⟨rfl, hw⟩; rw [hw]; clear hw))
        go_ret
        exact ⟨_, [], rfl, Fresh.nil _ _, by rw [HW.out]; rfl, HI.out.2.2.2, fun _ => rfl⟩
end Go.Proofs.YtllkplanjfnnmaaGreatDoor
