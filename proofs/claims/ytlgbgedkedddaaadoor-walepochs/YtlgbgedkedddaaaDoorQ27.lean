/- A log in memory; Drop, Begin, Append. -/
import Derived.Test.YtlgbgedkedddaaaDoorQ26
namespace Go.Proofs.YtlgbgedkedddaaaDoor
open Go.RowKit

/-- A log's state: its sectors, its epoch, is it closed, the groups' bytes, the records that wait. -/
structure LS where
  fr : Nat
  ct : Nat
  ep : Nat
  cl : Bool
  G : List (List UInt8)
  R : List (List UInt8)
/-- A state that may be. -/
structure LS.Ok (L : LS) : Prop where
  fr : L.fr ≤ 4096
  ct : L.ct ≤ 10000
  ep : L.ep ≤ 1000000000
  us : W.usedOf L.G ≤ L.ct
  wt : L.R ≠ [] → W.secs (W.gbytes L.R).length ≤ L.ct - W.usedOf L.G
  good : ∀ g ∈ L.G, W.Good g
set_option maxRecDepth 100000 in
theorem secs_len {n m : Nat} (h : W.secs n ≤ m) : n ≤ 233 * m := by unfold W.secs at h; omega
set_option maxRecDepth 100000 in
theorem texts_le (R : List (List UInt8)) : (W.texts R).length ≤ (W.gbytes R).length := by rw [W.gbytes, List.length_append]; omega
set_option maxRecDepth 100000 in
theorem LS.Ok.len {L : LS} (h : L.Ok) : (W.texts L.R).length ≤ 2330000 ∧ L.R.length ≤ 2330000 := by
  by_cases hR : L.R = []
  · rw [hR]; simp [W.texts]
  · have h1 := secs_len (h.wt hR)
    have h2 := texts_le L.R
    have h3 := W.texts_len L.R
    have h4 := h.ct
    omega

/-- The log's box. -/
abbrev LBox (p : Nat) (L : LS) (gv tv : Value) : Obj := .cells #[Ptr p, .int .i64 (L.fr : Int), .int .i64 (L.ct : Int), .int .i64 (L.ep : Int), .bool L.cl, gv, .int .i64 (W.usedOf L.G : Int), .int .i64 (L.R.length : Int), tv] 35 (0, 0)
/-- Where a group's bytes may lie. -/
def DQ (O : Nat → Prop) (l : Nat) (gv tv : Value) : Nat → Prop := fun k => O k ∧ k ≠ l ∧ gv.ownBlock ≠ some k ∧ tv.ownBlock ≠ some k
structure IsLogV (w : World) (O : Nat → Prop) (l p : Nat) (gv tv : Value) (hs : List Part) (L : LS) : Prop where
  box : w.heap[l]? = some (LBox p L gv tv)
  rows : w.ownsRow 0 22 1 gv hs.length (hs.map PV)
  data : ∀ x ∈ hs, PQ w (DQ O l gv tv) x
  bytes : hs.map (·.bs) = L.G
  texts : w.ownsRow 0 5 1 tv (W.texts L.R).length (S (W.texts L.R))
  ol : O l
  og : ∀ k, gv.ownBlock = some k → O k
  ot : ∀ k, tv.ownBlock = some k → O k
def IsLog (w : World) (O : Nat → Prop) (l p : Nat) (L : LS) : Prop := ∃ gv tv hs, IsLogV w O l p gv tv hs L
theorem IsLogV.touch {w w' : World} {O T : Nat → Prop} {l p : Nat} {gv tv : Value} {hs : List Part} {L : LS} (h : IsLogV w O l p gv tv hs L) (hT : Touch T w w') (hn : ∀ k, O k → ¬ T k) : IsLogV w' O l p gv tv hs L :=
  ⟨hT.at' h.box (hn l h.ol), row_touch h.rows hT (fun k hk => hn k (h.og k hk)), fun x hx => (h.data x hx).touch hT (fun k hk => hn k hk.1), h.bytes, row_touch h.texts hT (fun k hk => hn k (h.ot k hk)), h.ol, h.og, h.ot⟩
theorem IsLogV.mono {w : World} {O O' : Nat → Prop} {l p : Nat} {gv tv : Value} {hs : List Part} {L : LS} (h : IsLogV w O l p gv tv hs L) (hn : ∀ k, O k → O' k) : IsLogV w O' l p gv tv hs L :=
  ⟨h.box, h.rows, fun x hx => (h.data x hx).mono (fun k _ hk => ⟨hn k hk.1, hk.2⟩), h.bytes, h.texts, hn l h.ol, fun k hk => hn k (h.og k hk), fun k hk => hn k (h.ot k hk)⟩
set_option maxRecDepth 100000 in
theorem IsLog.touch {w w' : World} {O T : Nat → Prop} {l p : Nat} {L : LS} (h : IsLog w O l p L) (hT : Touch T w w') (hn : ∀ k, O k → ¬ T k) : IsLog w' O l p L := by
  obtain ⟨gv, tv, hs, h⟩ := h
  exact ⟨gv, tv, hs, h.touch hT hn⟩
set_option maxRecDepth 100000 in
theorem IsLog.mono {w : World} {O O' : Nat → Prop} {l p : Nat} {L : LS} (h : IsLog w O l p L) (hn : ∀ k, O k → O' k) : IsLog w O' l p L := by
  obtain ⟨gv, tv, hs, h⟩ := h
  exact ⟨gv, tv, hs, h.mono hn⟩
theorem IsLog.adds {w w' : World} {O : Nat → Prop} {l p : Nat} {L : LS} (h : IsLog w O l p L) (hT : Adds w w') : IsLog w' O l p L := h.touch hT (fun _ _ => id)
set_option maxRecDepth 100000 in
theorem type_ne {w : World} {k l : Nat} {c d : Array Value} {t u : TypeId} {f g : Nat × Nat} (h : w.heap[k]? = some (.cells c t f)) (h' : w.heap[l]? = some (.cells d u g)) (hne : t ≠ u) : k ≠ l := by
  intro e; subst e
  rw [h] at h'
  simp at h'
  exact hne h'.2.1
set_option maxRecDepth 100000 in
theorem IsLogV.ne {w : World} {O : Nat → Prop} {l p : Nat} {gv tv : Value} {hs : List Part} {L : LS} (h : IsLogV w O l p gv tv hs L) : gv.ownBlock ≠ some l ∧ tv.ownBlock ≠ some l ∧ (∀ k, gv.ownBlock = some k → tv.ownBlock ≠ some k) := by
  refine ⟨fun e => ?_, fun e => ?_, fun k e e' => ?_⟩
  · obtain ⟨c, hc⟩ := row_type h.rows e; exact type_ne hc h.box (by decide) rfl
  · obtain ⟨c, hc⟩ := row_type h.texts e; exact type_ne hc h.box (by decide) rfl
  · obtain ⟨c, hc⟩ := row_type h.rows e; obtain ⟨d, hd⟩ := row_type h.texts e'; exact type_ne hc hd (by decide) rfl
/-- The box alone has turned. -/
theorem IsLogV.box' {w w' : World} {O : Nat → Prop} {l p : Nat} {gv tv : Value} {hs : List Part} {L L' : LS} (h : IsLogV w O l p gv tv hs L) (hT : Touch (fun k => k = l) w w') (tv' : Value) (hb : w'.heap[l]? = some (LBox p L' gv tv')) (hG : L'.G = L.G)
    (ht : w'.ownsRow 0 5 1 tv' (W.texts L'.R).length (S (W.texts L'.R))) (ho : ∀ k, tv'.ownBlock = some k → O k) (hd : ∀ k, k < w.heap.size → tv.ownBlock ≠ some k → tv'.ownBlock ≠ some k) : IsLogV w' O l p gv tv' hs L' :=
  ⟨hb, row_touch h.rows hT (fun k hk e => h.ne.1 (by rw [hk]; exact congrArg some e)), fun x hx => ((h.data x hx).mono (Q' := DQ O l gv tv') (fun k hk q => ⟨q.1, q.2.1, q.2.2.1, hd k hk q.2.2.2⟩)).touch hT (fun k q e => q.2.1 e), by rw [hG]; exact h.bytes, ht, h.ol, h.og, ho⟩

/-! ### Drop -/
def PDrop (w : World) (O : Nat → Prop) (l p : Nat) (L : LS) (e : Ending) (w' : World) : Prop := e = .returned (.int .i64 (L.R.length : Int)) ∧ IsLog w' O l p { L with R := [] } ∧ Touch (fun k => k = l) w w'
set_option maxRecDepth 100000 in
theorem drop_none (l : Nat) (w : World) (c7 : w.cell? ⟨l, 7, none⟩ = some (.int .i64 0)) : Calls Tryd.prog 11 #[Ptr l] w (Tells (.int .i64 0) w) := by
  have H := hid (waiting_any l 0 w c7)
  go_enter Tryd.func11, Tryd.ntmps11
  go_wp2_with (first | (go_at_call 13; refine H.out.mono ?_; rintro e _ ⟨rfl, hw⟩; rw [hw]; clear hw))
  go_ret
  exact ⟨rfl, rfl⟩
set_option maxRecDepth 100000 in
theorem drop_nil (w : World) : Calls Tryd.prog 11 #[.pointer none] w (Tells (.int .i64 0) w) := by
  have H := hid (waiting_nil w)
  go_enter Tryd.func11, Tryd.ntmps11
  go_wp2_with (first | (go_at_call 13; refine H.out.mono ?_; rintro e _ ⟨rfl, hw⟩; rw [hw]; clear hw))
  go_ret
  exact ⟨rfl, rfl⟩
set_option maxRecDepth 100000 in
theorem drop_some (l : Nat) (x0 x1 x2 x3 x4 x5 x6 x8 : Value) (n : Nat) (hn : 0 < n) (w : World) (hb : w.heap[l]? = some (.cells #[x0, x1, x2, x3, x4, x5, x6, .int .i64 (n : Int), x8] 35 (0, 0))) :
    Calls Tryd.prog 11 #[Ptr l] w fun e w' => e = .returned (.int .i64 (n : Int)) ∧ w' = w.setRow l #[x0, x1, x2, x3, x4, x5, x6, .int .i64 0, .slice none 0 0] := by
  have c7 : w.cell? ⟨l, 7, none⟩ = some (.int .i64 (n : Int)) := cellOf hb 7
  have c8 : w.cell? ⟨l, 8, none⟩ = some x8 := cellOf hb 8
  have f7 : w.frozen? ⟨l, 7, none⟩ = false := frozen_of_row w l 7 _ 35 hb
  have f8 : w.frozen? ⟨l, 8, none⟩ = false := frozen_of_row w l 8 _ 35 hb
  have H := hid (waiting_any l n w c7)
  have hn' : (0 : Int) < (n : Int) := by omega
  go_enter Tryd.func11, Tryd.ntmps11
  go_wp2_with (first | (go_at_call 13; refine H.out.mono ?_; rintro e _ ⟨rfl, hw⟩; rw [hw]; clear hw))
  go_ret
  refine ⟨rfl, ?_⟩
  rw [setCell_eq_setRow w l 7 _ 35 _ _ hb, setCell_eq_setRow _ l 8 _ 35 _ _ (setRow_heap w l _ _ 35 _ hb), setRow_setRow]; rfl
set_option maxRecDepth 100000 in
theorem drop_any {w : World} {O : Nat → Prop} {l p : Nat} {L : LS} (h : IsLog w O l p L) : Calls Tryd.prog 11 #[Ptr l] w (PDrop w O l p L) := by
  obtain ⟨gv, tv, hs, h⟩ := h
  by_cases hR : L.R = []
  · refine (drop_none l w (by rw [cellOf h.box 7, hR]; rfl)).mono ?_
    rintro e w' ⟨rfl, hw⟩
    subst hw
    have e2 : { L with R := [] } = L := by cases L; simp at hR; simp [hR]
    exact ⟨by rw [hR]; rfl, by rw [e2]; exact ⟨gv, tv, hs, h⟩, Touch.refl _ _⟩
  · refine (drop_some l _ _ _ _ _ _ _ _ L.R.length (by cases hq : L.R with | nil => exact absurd hq hR | cons a b => simp) w h.box).mono ?_
    rintro e w' ⟨rfl, hw⟩
    have hT : Touch (fun k => k = l) w w' := by rw [hw]; exact Touch.setRow (T := fun k => k = l) (Touch.refl _ w) (fun _ => rfl) _
    refine ⟨rfl, ⟨gv, .slice none 0 0, hs, h.box' hT (.slice none 0 0) (by rw [hw]; exact setRow_heap w l _ _ 35 _ h.box) rfl (World.ownsRow_nil _ _ _ _) (fun k hk => (by cases hk)) (fun k _ _ e => (by cases e))⟩, hT⟩

/-! ### Begin -/
set_option maxRecDepth 100000 in
theorem begin_nil (e : Int) (w : World) : Calls Tryd.prog 8 #[.pointer none, .int .i64 e] w (Tells (.int .i64 1) w) := by
  have H := hid (lmade_nil w)
  go_enter Tryd.func8, Tryd.ntmps8
  go_wp2_with (first | (go_at_call 27; refine H.out.mono ?_; rintro e _ ⟨rfl, hw⟩; rw [hw]; clear hw))
  go_ret
  exact ⟨rfl, rfl⟩
set_option maxRecDepth 100000 in
theorem begin_zero (l : Nat) (e : Int) (w : World) (c0 : w.cell? ⟨l, 0, none⟩ = some (.pointer none)) : Calls Tryd.prog 8 #[Ptr l, .int .i64 e] w (Tells (.int .i64 1) w) := by
  have H := hid (lmade_zero l w c0)
  go_enter Tryd.func8, Tryd.ntmps8
  go_wp2_with (first | (go_at_call 27; refine H.out.mono ?_; rintro e _ ⟨rfl, hw⟩; rw [hw]; clear hw))
  go_ret
  exact ⟨rfl, rfl⟩
set_option maxRecDepth 100000 in
theorem begin_bad (l p : Nat) (ep e : Int) (w : World) (c0 : w.cell? ⟨l, 0, none⟩ = some (Ptr p)) (c3 : w.cell? ⟨l, 3, none⟩ = some (.int .i64 ep)) (h : e ≤ ep ∨ 1000000000 < e) : Calls Tryd.prog 8 #[Ptr l, .int .i64 e] w (Tells (.int .i64 2) w) := by
  have H := hid (lmade_yes l p w c0)
  by_cases h1 : e ≤ ep
  · have d1 : decide (e ≤ ep) = true := by simpa using h1
    clear h
    go_enter Tryd.func8, Tryd.ntmps8
    go_wp2_with (first | (go_at_call 27; refine H.out.mono ?_; rintro e _ ⟨rfl, hw⟩; rw [hw]; clear hw))
    go_ret
    exact ⟨rfl, rfl⟩
  · have d1 : decide (e ≤ ep) = false := by simpa using h1
    have h2 : 1000000000 < e := by omega
    clear h
    go_enter Tryd.func8, Tryd.ntmps8
    go_wp2_with (first | (go_at_call 27; refine H.out.mono ?_; rintro e _ ⟨rfl, hw⟩; rw [hw]; clear hw))
    go_ret
    exact ⟨rfl, rfl⟩
set_option maxRecDepth 100000 in
theorem build_log (p : Nat) (fr ct e : Int) (w : World) : (Instr.build 35 #[(0, Ptr p), (1, .int .i64 fr), (2, .int .i64 ct), (3, .int .i64 e)]).run Tryd.prog w = .ok (.agg #[Ptr p, .int .i64 fr, .int .i64 ct, .int .i64 e, .bool false, .slice none 0 0, .int .i64 0, .int .i64 0, .slice none 0 0]) w := by kernel_rfl
set_option maxRecDepth 100000 in
theorem infoLog : (Tryd.prog.info? 35).map (·.size) = some 9 := by kernel_rfl
set_option maxRecDepth 100000 in
set_option maxHeartbeats 1000000 in
theorem begin_ok (l p : Nat) (fr ct : Int) (x4 x5 x6 x7 x8 : Value) (ep e : Int) (w : World) (hb : w.heap[l]? = some (.cells #[Ptr p, .int .i64 fr, .int .i64 ct, .int .i64 ep, x4, x5, x6, x7, x8] 35 (0, 0))) (h1 : ep < e) (h2 : e ≤ 1000000000) :
    Calls Tryd.prog 8 #[Ptr l, .int .i64 e] w fun r w' => r = .returned (.int .i64 0) ∧ w'.heap[l]? = some (.cells #[Ptr p, .int .i64 fr, .int .i64 ct, .int .i64 e, .bool false, .slice none 0 0, .int .i64 0, .int .i64 0, .slice none 0 0] 35 (0, 0)) ∧ Touch (fun k => k = l) w w' := by
  have c0 : w.cell? ⟨l, 0, none⟩ = some (Ptr p) := cellOf hb 0
  have c1 : w.cell? ⟨l, 1, none⟩ = some (.int .i64 fr) := cellOf hb 1
  have c2 : w.cell? ⟨l, 2, none⟩ = some (.int .i64 ct) := cellOf hb 2
  have c3 : w.cell? ⟨l, 3, none⟩ = some (.int .i64 ep) := cellOf hb 3
  have HBL := hid (fun w => build_log p fr ct e w)
  have HB := hid hb
  have d1 : decide (e ≤ ep) = false := by simp; omega
  have d2 : decide (1000000000 < e) = false := by simp; omega
  have H := hid (lmade_yes l p w c0)
  clear h1 h2 hb c1 c2
  go_enter Tryd.func8, Tryd.ntmps8
  go_upto_region 5 with (first | (go_at_call 27; refine H.out.mono ?_; rintro e _ ⟨rfl, hw⟩; rw [hw]; clear hw))
  refine E_begin (S := fun w' : World => w'.heap[l]? = some (.cells #[Ptr p, .int .i64 fr, .int .i64 ct, .int .i64 ep, x4, x5, x6, x7, x8] 35 (0, 0))) (X := 16) (by kernel_rfl) ?_
  have hS : (fun w' : World => w'.heap[l]? = some (.cells #[Ptr p, .int .i64 fr, .int .i64 ct, .int .i64 ep, x4, x5, x6, x7, x8] 35 (0, 0))) w.drew := HB.out
  refine E_put (i := 0) 20 (v := Ptr l) rfl rfl (by kernel_rfl) (by kernel_rfl) (by kernel_rfl) (by kernel_rfl) (fun _ _ _ h => h) (Or.inl ⟨by rfl, fun w' hw' => ?_⟩) hS ?_
  · go_simp
  simp only [Act.put, List.setIfInBounds_toArray, List.set_cons_zero, List.set_cons_succ]
  refine E_put (i := 1) 21 (v := Ptr l) rfl rfl (by kernel_rfl) (by kernel_rfl) (by kernel_rfl) (by kernel_rfl) (fun _ _ _ h => h) (Or.inl ⟨by rfl, fun w' hw' => ?_⟩) hS ?_
  · go_simp
  simp only [Act.put, List.setIfInBounds_toArray, List.set_cons_zero, List.set_cons_succ]
  refine E_put (i := 2) 22 (v := Ptr l) rfl rfl (by kernel_rfl) (by kernel_rfl) (by kernel_rfl) (by kernel_rfl) (fun _ _ _ h => h) (Or.inl ⟨by rfl, fun w' hw' => ?_⟩) hS ?_
  · go_simp
  simp only [Act.put, List.setIfInBounds_toArray, List.set_cons_zero, List.set_cons_succ]
  refine E_put (i := 3) 23 (v := .pointer (some ⟨l, 0, none⟩)) rfl rfl (by kernel_rfl) (by kernel_rfl) (by kernel_rfl) (by kernel_rfl) (fun _ _ _ h => h) (Or.inl ⟨by rfl, fun w' hw' => ?_⟩) hS ?_
  · go_simp
  simp only [Act.put, List.setIfInBounds_toArray, List.set_cons_zero, List.set_cons_succ]
  refine E_put (i := 4) 24 (v := Ptr p) rfl rfl (by kernel_rfl) (by kernel_rfl) (by kernel_rfl) (by kernel_rfl) (fun _ _ _ h => h) (Or.inl ⟨by rfl, fun w' hw' => ?_⟩) hS ?_
  · have c : w'.cell? ⟨l, 0, none⟩ = some (Ptr p) := cellOf (hw') 0; go_simp
  simp only [Act.put, List.setIfInBounds_toArray, List.set_cons_zero, List.set_cons_succ]
  refine E_put (i := 5) 25 (v := Ptr l) rfl rfl (by kernel_rfl) (by kernel_rfl) (by kernel_rfl) (by kernel_rfl) (fun _ _ _ h => h) (Or.inl ⟨by rfl, fun w' hw' => ?_⟩) hS ?_
  · go_simp
  simp only [Act.put, List.setIfInBounds_toArray, List.set_cons_zero, List.set_cons_succ]
  refine E_put (i := 6) 26 (v := Ptr l) rfl rfl (by kernel_rfl) (by kernel_rfl) (by kernel_rfl) (by kernel_rfl) (fun _ _ _ h => h) (Or.inl ⟨by rfl, fun w' hw' => ?_⟩) hS ?_
  · go_simp
  simp only [Act.put, List.setIfInBounds_toArray, List.set_cons_zero, List.set_cons_succ]
  refine E_put (i := 7) 27 (v := .pointer (some ⟨l, 1, none⟩)) rfl rfl (by kernel_rfl) (by kernel_rfl) (by kernel_rfl) (by kernel_rfl) (fun _ _ _ h => h) (Or.inl ⟨by rfl, fun w' hw' => ?_⟩) hS ?_
  · go_simp
  simp only [Act.put, List.setIfInBounds_toArray, List.set_cons_zero, List.set_cons_succ]
  refine E_put (i := 8) 28 (v := .int .i64 fr) rfl rfl (by kernel_rfl) (by kernel_rfl) (by kernel_rfl) (by kernel_rfl) (fun _ _ _ h => h) (Or.inl ⟨by rfl, fun w' hw' => ?_⟩) hS ?_
  · have c : w'.cell? ⟨l, 1, none⟩ = some (.int .i64 fr) := cellOf (hw') 1; go_simp
  simp only [Act.put, List.setIfInBounds_toArray, List.set_cons_zero, List.set_cons_succ]
  refine E_put (i := 9) 29 (v := Ptr l) rfl rfl (by kernel_rfl) (by kernel_rfl) (by kernel_rfl) (by kernel_rfl) (fun _ _ _ h => h) (Or.inl ⟨by rfl, fun w' hw' => ?_⟩) hS ?_
  · go_simp
  simp only [Act.put, List.setIfInBounds_toArray, List.set_cons_zero, List.set_cons_succ]
  refine E_put (i := 10) 30 (v := Ptr l) rfl rfl (by kernel_rfl) (by kernel_rfl) (by kernel_rfl) (by kernel_rfl) (fun _ _ _ h => h) (Or.inl ⟨by rfl, fun w' hw' => ?_⟩) hS ?_
  · go_simp
  simp only [Act.put, List.setIfInBounds_toArray, List.set_cons_zero, List.set_cons_succ]
  refine E_put (i := 11) 31 (v := .pointer (some ⟨l, 2, none⟩)) rfl rfl (by kernel_rfl) (by kernel_rfl) (by kernel_rfl) (by kernel_rfl) (fun _ _ _ h => h) (Or.inl ⟨by rfl, fun w' hw' => ?_⟩) hS ?_
  · go_simp
  simp only [Act.put, List.setIfInBounds_toArray, List.set_cons_zero, List.set_cons_succ]
  refine E_put (i := 12) 32 (v := .int .i64 ct) rfl rfl (by kernel_rfl) (by kernel_rfl) (by kernel_rfl) (by kernel_rfl) (fun _ _ _ h => h) (Or.inl ⟨by rfl, fun w' hw' => ?_⟩) hS ?_
  · have c : w'.cell? ⟨l, 2, none⟩ = some (.int .i64 ct) := cellOf (hw') 2; go_simp
  simp only [Act.put, List.setIfInBounds_toArray, List.set_cons_zero, List.set_cons_succ]
  refine E_put (i := 13) 33 (v := .int .i64 e) rfl rfl (by kernel_rfl) (by kernel_rfl) (by kernel_rfl) (by kernel_rfl) (fun _ _ _ h => h) (Or.inl ⟨by rfl, fun w' hw' => ?_⟩) hS ?_
  · go_simp
  simp only [Act.put, List.setIfInBounds_toArray, List.set_cons_zero, List.set_cons_succ]
  refine E_put (i := 14) 34 (v := .agg #[Ptr p, .int .i64 fr, .int .i64 ct, .int .i64 e, .bool false, .slice none 0 0, .int .i64 0, .int .i64 0, .slice none 0 0]) rfl rfl (by kernel_rfl) (by kernel_rfl) (by kernel_rfl) (by kernel_rfl) (fun _ _ _ h => h) (Or.inl ⟨by rfl, fun w' hw' => ?_⟩) hS ?_
  · have hbl := HBL.out; go_simp
  simp only [Act.put, List.setIfInBounds_toArray, List.set_cons_zero, List.set_cons_succ]
  refine E_put (i := 15) 35 (v := Ptr l) rfl rfl (by kernel_rfl) (by kernel_rfl) (by kernel_rfl) (by kernel_rfl) (fun _ _ _ h => h) (Or.inl ⟨by rfl, fun w' hw' => ?_⟩) hS ?_
  · go_simp
  simp only [Act.put, List.setIfInBounds_toArray, List.set_cons_zero, List.set_cons_succ]
  refine E_do (i := 16) none (by kernel_rfl) rfl rfl rfl (fun K hK => ?_)
  refine wp_store_row (.tmp 35) (.tmp 34) 35 rfl l _ _ 35 rfl rfl HB.out infoLog rfl (by kernel_rfl) ?_
  refine hK (undef) _ (fun h => absurd rfl h) ?_
  clear hK K
  simp only [Act.put]
  refine E_done (by kernel_rfl) ?_ _
  go_wp2
  go_ret
  exact ⟨rfl, setRow_heap w l _ _ 35 _ HB.out, (Touch.setRow (T := fun k => k = l) (Touch.refl _ w).drew (fun _ => rfl) _)⟩
end Go.Proofs.YtlgbgedkedddaaaDoor
