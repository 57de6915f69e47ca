/- Append. -/
import Derived.Test.YtlgbgedkedddaaaDoorWLog
namespace Go.Proofs.YtlgbgedkedddaaaDoor
open Go.RowKit

/-! ### Append -/
set_option maxRecDepth 100000 in
theorem lappend_nil (a : Option Addr) (n cap : Nat) (w : World) : Calls Tryd.prog 9 #[.pointer none, .slice a n cap] w (Tells (.int .i64 1) w) := by
  have H := hid (lmade_nil w)
  go_enter Tryd.func9, Tryd.ntmps9
  go_wp2_with (first | (go_at_call 27; refine H.out.mono ?_; rintro e _ ⟨rfl, hw⟩; rw [hw]; clear hw))
  go_ret
  exact ⟨rfl, rfl⟩
set_option maxRecDepth 100000 in
theorem lappend_zero (l : Nat) (a : Option Addr) (n cap : Nat) (w : World) (c0 : w.cell? ⟨l, 0, none⟩ = some (.pointer none)) : Calls Tryd.prog 9 #[Ptr l, .slice a n cap] w (Tells (.int .i64 1) w) := by
  have H := hid (lmade_zero l w c0)
  go_enter Tryd.func9, Tryd.ntmps9
  go_wp2_with (first | (go_at_call 27; refine H.out.mono ?_; rintro e _ ⟨rfl, hw⟩; rw [hw]; clear hw))
  go_ret
  exact ⟨rfl, rfl⟩
set_option maxRecDepth 100000 in
theorem lappend_closed (l p : Nat) (a : Option Addr) (n cap : Nat) (w : World) (c0 : w.cell? ⟨l, 0, none⟩ = some (Ptr p)) (c4 : w.cell? ⟨l, 4, none⟩ = some (.bool true)) : Calls Tryd.prog 9 #[Ptr l, .slice a n cap] w (Tells (.int .i64 42) w) := by
  have H := hid (lmade_yes l p w c0)
  go_enter Tryd.func9, Tryd.ntmps9
  go_wp2_with (first | (go_at_call 27; refine H.out.mono ?_; rintro e _ ⟨rfl, hw⟩; rw [hw]; clear hw))
  go_ret
  exact ⟨rfl, rfl⟩
set_option maxRecDepth 100000 in
theorem lappend_big (l p : Nat) (a : Option Addr) (n cap : Nat) (w : World) (c0 : w.cell? ⟨l, 0, none⟩ = some (Ptr p)) (c4 : w.cell? ⟨l, 4, none⟩ = some (.bool false)) (h : 4096 < n) : Calls Tryd.prog 9 #[Ptr l, .slice a n cap] w (Tells (.int .i64 3) w) := by
  have H := hid (lmade_yes l p w c0)
  have h' : (4096 : Int) < (n : Int) := by omega
  go_enter Tryd.func9, Tryd.ntmps9
  go_wp2_with (first | (go_at_call 27; refine H.out.mono ?_; rintro e _ ⟨rfl, hw⟩; rw [hw]; clear hw))
  go_ret
  exact ⟨rfl, rfl⟩
/-- What Append leaves. -/
def PApp (w : World) (O : Nat → Prop) (l p : Nat) (L : LS) (z : Int) (e : Ending) (w' : World) : Prop := e = .returned (.int .i64 z) ∧ ∃ O', IsLog w' O' l p L ∧ Touch O w w' ∧ ∀ k, O' k → O k ∨ (w.heap.size ≤ k ∧ k < w'.heap.size)
set_option maxRecDepth 100000 in
theorem S_append (x y : List UInt8) : S (x ++ y) = S x ++ S y := by simp [S]
set_option maxRecDepth 100000 in
theorem app_mem {w w4 w5 : World} {O : Nat → Prop} {l p : Nat} {gv v5 : Value} {hs : List Part} {L : LS} {ta : Option Addr} {tc m k us ct tl : Nat} {bs : List UInt8} (h : IsLogV w O l p gv (.slice ta (W.texts L.R).length tc) hs L) (hA : Adds w w4)
    (hG : Grew w4 w5 5 (.slice ta m tc) v5 (m + tl) (S (W.texts L.R) ++ S (W.text bs)))
    (hb : w5.heap[l]? = some (.cells #[Ptr p, .int .i64 (L.fr : Int), .int .i64 (ct : Int), .int .i64 (L.ep : Int), .bool false, gv, .int .i64 (us : Int), .int .i64 (k : Int), .slice ta m tc] 35 (0, 0)))
    (hm : m = (W.texts L.R).length) (hk : k = L.R.length) (hus : us = W.usedOf L.G) (hct : ct = L.ct) (htl : tl = (W.text bs).length) (hcl : L.cl = false) :
    PApp w O l p { L with R := L.R ++ [bs] } 0 (.returned (.int .i64 0)) ((w5.setCell ⟨l, 8, none⟩ v5).setCell ⟨l, 7, none⟩ (.int .i64 ((k : Int) + 1))) := by
  subst hm hk hus hct htl
  have e6 : (w5.setCell ⟨l, 8, none⟩ v5).setCell ⟨l, 7, none⟩ (.int .i64 ((L.R.length : Int) + 1)) = w5.setRow l #[Ptr p, .int .i64 (L.fr : Int), .int .i64 (L.ct : Int), .int .i64 (L.ep : Int), .bool false, gv, .int .i64 (W.usedOf L.G : Int), .int .i64 ((L.R.length : Int) + 1), v5] := by
    rw [setCell_eq_setRow w5 l 8 _ 35 _ _ hb, setCell_eq_setRow _ l 7 _ 35 _ _ (setRow_heap w5 l _ _ 35 _ hb), setRow_setRow]; rfl
  rw [e6]
  have hn := h.ne
  have hT : Touch (fun k => Value.ownBlock (.slice ta (W.texts L.R).length tc) = some k) w w5 := (hA.mono (fun _ _ c => c.elim)).trans (hG.touch.mono (fun _ _ c => c)) |> fun x => x
  have hT6 : Touch (fun k => k = l) w5 (w5.setRow l #[Ptr p, .int .i64 (L.fr : Int), .int .i64 (L.ct : Int), .int .i64 (L.ep : Int), .bool false, gv, .int .i64 (W.usedOf L.G : Int), .int .i64 ((L.R.length : Int) + 1), v5]) := Touch.setRow (T := fun k => k = l) (Touch.refl _ _) (fun _ => rfl) _
  have hat : ∀ k, v5.ownBlock = some k → Value.ownBlock (.slice ta (W.texts L.R).length tc) = some k ∨ k = w4.heap.size := fun k hk => by
    rcases hG.2.2 with c | c
    · exact .inl (by rw [← c]; exact hk)
    · rw [c] at hk; exact .inr (by cases hk; rfl)
  have hw := hA.size
  refine ⟨rfl, fun k => O k ∨ v5.ownBlock = some k, ⟨gv, v5, hs, ⟨?_, ?_, ?_, h.bytes, ?_, .inl h.ol, fun k hk => .inl (h.og k hk), fun k hk => .inr hk⟩⟩, ?_, ?_⟩
  · rw [setRow_heap w5 l _ _ 35 _ hb]
    simp only [LBox, hcl, List.length_append, List.length_cons, List.length_nil]
    congr 3
  · exact row_touch (row_touch h.rows hT (fun k hk => hn.2.2 k hk)) hT6 (fun k hk e => hn.1 (by rw [hk]; exact congrArg some e))
  · intro x hx
    have q1 : PQ w (fun k => DQ O l gv (.slice ta (W.texts L.R).length tc) k ∧ v5.ownBlock ≠ some k) x := (h.data x hx).mono (fun k hk q => ⟨q, fun c => by
      rcases hat k c with c | c
      · exact q.2.2.2 c
      · omega⟩)
    exact ((q1.touch hT (fun k q => q.1.2.2.2)).touch hT6 (fun k q => q.1.2.1)).mono (fun k _ q => ⟨.inl q.1.1, q.1.2.1, q.1.2.2.1, q.2⟩)
  · refine row_touch (T := fun k => k = l) ?_ hT6 (fun k hk e => ?_)
    · have ho := hG.1
      rw [← S_append] at ho
      have e1 : W.texts (L.R ++ [bs]) = W.texts L.R ++ W.text bs := by rw [W.texts_app, W.texts_one]
      simp only [e1, List.length_append]
      exact ho
    · obtain ⟨c, hc⟩ := row_type hG.1 hk
      exact type_ne hc hb (by decide) e
  · exact (hT.mono (fun k _ c => h.ot k c)).then hT6 (fun k _ e => by subst e; exact h.ol)
  · intro k hk
    rcases hk with hk | hk
    · exact .inl hk
    · rcases hat k hk with c | c
      · exact .inl (h.ot k c)
      · refine .inr ⟨by omega, ?_⟩
        have := (row_low hG.1 hk).2
        have := hT6.size
        omega
set_option maxRecDepth 100000 in
set_option maxHeartbeats 2000000 in
theorem lappend_full {w : World} {O : Nat → Prop} {l p : Nat} {gv tv : Value} {hs : List Part} {L : LS} (h : IsLogV w O l p gv tv hs L) (hk : L.Ok) (hcl : L.cl = false) (a : Option Addr) (bs : List UInt8) (n cap : Nat) (hn : bs.length = n) (hA : At w a bs) (hb : n ≤ 4096)
    (hr : ¬ W.secs (W.gbytes (L.R ++ [bs])).length ≤ L.ct - W.usedOf L.G) :
    Calls Tryd.prog 9 #[Ptr l, .slice a n cap] w (Adding (.int .i64 31) w) := by
  obtain ⟨ta, tc, htv, htc, hta, htq⟩ := own_cq h.texts
  subst htv
  have hl := hk.len
  obtain ⟨m, hm⟩ : ∃ m, m = (W.texts L.R).length := ⟨_, rfl⟩
  obtain ⟨k, hkr⟩ : ∃ k, k = L.R.length := ⟨_, rfl⟩
  obtain ⟨us, hus⟩ : ∃ us, us = W.usedOf L.G := ⟨_, rfl⟩
  obtain ⟨ct, hct⟩ : ∃ ct, ct = L.ct := ⟨_, rfl⟩
  have husb : us ≤ ct ∧ ct ≤ 10000 := by rw [hus, hct]; exact ⟨hk.us, hk.ct⟩
  have HB := hid (show w.heap[l]? = some (.cells #[Ptr p, .int .i64 (L.fr : Int), .int .i64 (ct : Int), .int .i64 (L.ep : Int), .bool false, gv, .int .i64 (us : Int), .int .i64 (k : Int), .slice ta m tc] 35 (0, 0)) by rw [hct, hus, hkr, hm, ← hcl]; exact h.box)
  have c0 : w.cell? ⟨l, 0, none⟩ = some (Ptr p) := cellOf HB.out 0
  have c4 : w.cell? ⟨l, 4, none⟩ = some (.bool false) := cellOf HB.out 4
  have H := hid (lmade_yes l p w c0)
  have h' : ¬ (4096 : Int) < (n : Int) := by omega
  have hcv : (convert 22 9 (.slice a n cap)).run Tryd.prog w = .ok (.string ⟨bs.toArray⟩) w := by rw [← hn]; exact conv_at w a bs cap hA
  have HP := hid (putText_any none [] 0 bs w (by decide) (by omega) (fun _ => rfl) (At.nil _ _))
  obtain ⟨tl, htl⟩ : ∃ tl, tl = (W.text bs).length := ⟨_, rfl⟩
  have htl2 : tl ≤ 5000 := by rw [htl, W.text, List.length_append]; have := M.len_enc10 (n := bs.length) (by omega); omega
  obtain ⟨nl, hnl⟩ : ∃ nl, nl = (M.enc (k + 1)).length := ⟨_, rfl⟩
  have hnl2 : nl ≤ 10 := by rw [hnl]; exact M.len_enc10 (by omega)
  have hm2 : m ≤ 2330000 := by rw [hm]; exact hl.1
  have hk2 : k ≤ 2330000 := by rw [hkr]; exact hl.2
  have hg : (W.gbytes (L.R ++ [bs])).length = nl + m + tl := by rw [W.gbytes, show (L.R ++ [bs]).length = k + 1 by simp [hkr], List.length_append, W.texts_app, W.texts_one, List.length_append, ← hnl, ← hm, ← htl]; omega
  rw [hg] at hr
  have HN := hid (fun w' => show Calls Tryd.prog 30 #[.int .i64 ((k : Int) + 1)] w' (POwn w' (M.enc (k + 1))) by rw [show (k : Int) + 1 = ((k + 1 : Nat) : Int) by omega]; exact number_any (k + 1) w' (by omega))
  have HS := hid (fun w' => show Calls Tryd.prog 29 #[.int .i64 ((nl : Int) + m + tl)] w' (Tells (.int .i64 (W.secs (nl + m + tl) : Int)) w') by rw [show (nl : Int) + m + tl = ((nl + m + tl : Nat) : Int) by omega]; exact sectorsOf_any (nl + m + tl) w' (by omega))
  have HR := hid (fun w' (hb' : w'.heap[l]? = some (.cells #[Ptr p, .int .i64 (L.fr : Int), .int .i64 (ct : Int), .int .i64 (L.ep : Int), .bool false, gv, .int .i64 (us : Int), .int .i64 (k : Int), .slice ta m tc] 35 (0, 0))) => lroom_any l (ct : Int) (us : Int) w' (cellOf hb' 2) (cellOf hb' 6) (by omega) (by omega) (by omega))
  obtain ⟨sc, hsc⟩ : ∃ sc, sc = W.secs (nl + m + tl) := ⟨_, rfl⟩
  rw [← hsc] at HS hr
  have hr' : ((ct : Int) - us < sc) := by rw [← hus, ← hct] at hr; omega
  have HH := hid h
  have HK := hid (And.intro hg (And.intro hm (And.intro hkr (And.intro hus (And.intro hct (And.intro htl (And.intro hnl (And.intro hta (And.intro htq hcl)))))))))
  clear hg hm hkr hus hct htl hnl hsc hr hl htc hta htq hk h hA hn hcl
  go_enter Tryd.func9, Tryd.ntmps9
  go_upto_region 8 with (first
    | (go_at_call 27; refine H.out.mono ?_; rintro e _ ⟨rfl, hw⟩; rw [hw]; clear hw)
    | (go_at_call 28; refine HP.out.mono ?_; rintro e w1 ⟨v1, rfl, o1, A1⟩; obtain ⟨ea, ec, hv1, q1, q2, q3⟩ := own_cq o1; rw [List.nil_append] at hv1 q3 o1; have hv2 : v1 = .slice ea tl ec := by rw [hv1, HK.out.2.2.2.2.2.1]; rfl
       subst hv2; obtain ⟨eb, eo, hea⟩ := q3.at.ad (W.text_pos bs); subst hea; have HQ1 := hid (And.intro o1 (And.intro A1 (And.intro q2 q3))); clear o1 A1 q1 q2 q3 hv1))
  refine H_begin (S := fun w' : World => w'.heap[l]? = some (.cells #[Ptr p, .int .i64 (L.fr : Int), .int .i64 (ct : Int), .int .i64 (L.ep : Int), .bool false, gv, .int .i64 (us : Int), .int .i64 (k : Int), .slice ta m tc] 35 (0, 0))) (by kernel_rfl) ?_
  have hS : (fun w' : World => w'.heap[l]? = some (.cells #[Ptr p, .int .i64 (L.fr : Int), .int .i64 (ct : Int), .int .i64 (L.ep : Int), .bool false, gv, .int .i64 (us : Int), .int .i64 (k : Int), .slice ta m tc] 35 (0, 0))) w1.drew := (HQ1.out.2.1.at' HB.out id)
  refine H_put (i := 0) 22 (v := Ptr l) rfl rfl (by kernel_rfl) (by kernel_rfl) (by kernel_rfl) (fun _ _ _ h => h) (Or.inl ⟨by rfl, fun w' hw' => ?_⟩) hS ?_
  · go_simp
  simp only [Act.put, List.setIfInBounds_toArray, List.set_cons_zero, List.set_cons_succ]
  refine H_put (i := 1) 23 (v := Ptr l) rfl rfl (by kernel_rfl) (by kernel_rfl) (by kernel_rfl) (fun _ _ _ h => h) (Or.inl ⟨by rfl, fun w' hw' => ?_⟩) hS ?_
  · go_simp
  simp only [Act.put, List.setIfInBounds_toArray, List.set_cons_zero, List.set_cons_succ]
  refine H_put (i := 2) 24 (v := .pointer (some ⟨l, 7, none⟩)) rfl rfl (by kernel_rfl) (by kernel_rfl) (by kernel_rfl) (fun _ _ _ h => h) (Or.inl ⟨by rfl, fun w' hw' => ?_⟩) hS ?_
  · go_simp
  simp only [Act.put, List.setIfInBounds_toArray, List.set_cons_zero, List.set_cons_succ]
  refine H_put (i := 3) 25 (v := .int .i64 (k : Int)) rfl rfl (by kernel_rfl) (by kernel_rfl) (by kernel_rfl) (fun _ _ _ h => h) (Or.inl ⟨by rfl, fun w' hw' => ?_⟩) hS ?_
  · have c : w'.cell? ⟨l, 7, none⟩ = some (.int .i64 (k : Int)) := cellOf (hw') 7; go_simp
  simp only [Act.put, List.setIfInBounds_toArray, List.set_cons_zero, List.set_cons_succ]
  refine H_put (i := 4) 26 (v := .int .i64 ((k : Int) + 1)) rfl rfl (by kernel_rfl) (by kernel_rfl) (by kernel_rfl) (fun _ _ _ h => h) (Or.inl ⟨by rfl, fun w' hw' => ?_⟩) hS ?_
  · go_simp; rw [IntKind.wrap_i64]; omega
  simp only [Act.put, List.setIfInBounds_toArray, List.set_cons_zero, List.set_cons_succ]
  refine H_put (i := 7) 29 (v := Ptr l) rfl rfl (by kernel_rfl) (by kernel_rfl) (by kernel_rfl) (fun _ _ _ h => h) (Or.inl ⟨by rfl, fun w' hw' => ?_⟩) hS ?_
  · go_simp
  simp only [Act.put, List.setIfInBounds_toArray, List.set_cons_zero, List.set_cons_succ]
  refine H_put (i := 8) 30 (v := Ptr l) rfl rfl (by kernel_rfl) (by kernel_rfl) (by kernel_rfl) (fun _ _ _ h => h) (Or.inl ⟨by rfl, fun w' hw' => ?_⟩) hS ?_
  · go_simp
  simp only [Act.put, List.setIfInBounds_toArray, List.set_cons_zero, List.set_cons_succ]
  refine H_put (i := 9) 31 (v := .pointer (some ⟨l, 8, none⟩)) rfl rfl (by kernel_rfl) (by kernel_rfl) (by kernel_rfl) (fun _ _ _ h => h) (Or.inl ⟨by rfl, fun w' hw' => ?_⟩) hS ?_
  · go_simp
  simp only [Act.put, List.setIfInBounds_toArray, List.set_cons_zero, List.set_cons_succ]
  refine H_put (i := 10) 32 (v := .slice ta m tc) rfl rfl (by kernel_rfl) (by kernel_rfl) (by kernel_rfl) (fun _ _ _ h => h) (Or.inl ⟨by rfl, fun w' hw' => ?_⟩) hS ?_
  · have c : w'.cell? ⟨l, 8, none⟩ = some (.slice ta m tc) := cellOf (hw') 8; go_simp
  simp only [Act.put, List.setIfInBounds_toArray, List.set_cons_zero, List.set_cons_succ]
  refine H_put (i := 11) 33 (v := .int .i64 (m : Int)) rfl rfl (by kernel_rfl) (by kernel_rfl) (by kernel_rfl) (fun _ _ _ h => h) (Or.inl ⟨by rfl, fun w' hw' => ?_⟩) hS ?_
  · go_simp
  simp only [Act.put, List.setIfInBounds_toArray, List.set_cons_zero, List.set_cons_succ]
  refine H_put (i := 13) 35 (v := .slice (some ⟨eb, eo, none⟩) tl ec) rfl rfl (by kernel_rfl) (by kernel_rfl) (by kernel_rfl) (fun _ _ _ h => h) (Or.inl ⟨by rfl, fun w' hw' => ?_⟩) hS ?_
  · go_simp
  simp only [Act.put, List.setIfInBounds_toArray, List.set_cons_zero, List.set_cons_succ]
  refine H_put (i := 14) 36 (v := .int .i64 (tl : Int)) rfl rfl (by kernel_rfl) (by kernel_rfl) (by kernel_rfl) (fun _ _ _ h => h) (Or.inl ⟨by rfl, fun w' hw' => ?_⟩) hS ?_
  · go_simp
  simp only [Act.put, List.setIfInBounds_toArray, List.set_cons_zero, List.set_cons_succ]
  refine H_put (i := 17) 39 (v := Ptr l) rfl rfl (by kernel_rfl) (by kernel_rfl) (by kernel_rfl) (fun _ _ _ h => h) (Or.inl ⟨by rfl, fun w' hw' => ?_⟩) hS ?_
  · go_simp
  simp only [Act.put, List.setIfInBounds_toArray, List.set_cons_zero, List.set_cons_succ]
  refine H_call (i := 5) 27 30 #[.int .i64 ((k : Int) + 1)] (by kernel_rfl) rfl rfl (by rfl) (by go_simp) (HN.out w1.drew) ?_
  rintro e w2 ⟨v2, rfl, o2, A2⟩
  obtain ⟨na, nc, hv2, _, _, _⟩ := own_cq o2
  rw [← HK.out.2.2.2.2.2.2.1] at hv2
  subst hv2
  have HA2 := hid A2
  have HB2 := hid (A2.at' hS id)
  clear A2 o2
  have hS2 : (fun w' : World => w'.heap[l]? = some (.cells #[Ptr p, .int .i64 (L.fr : Int), .int .i64 (ct : Int), .int .i64 (L.ep : Int), .bool false, gv, .int .i64 (us : Int), .int .i64 (k : Int), .slice ta m tc] 35 (0, 0))) _ := HB2.out
  refine ⟨_, _, rfl, hS2, fun w' h => h, ?_⟩
  clear hS; have hS := hS2; clear hS2
  simp only [Act.put, List.setIfInBounds_toArray, List.set_cons_zero, List.set_cons_succ]
  refine H_put (i := 6) 28 (v := .int .i64 (nl : Int)) rfl rfl (by kernel_rfl) (by kernel_rfl) (by kernel_rfl) (fun _ _ _ h => h) (Or.inl ⟨by rfl, fun w' hw' => ?_⟩) hS ?_
  · go_simp
  simp only [Act.put, List.setIfInBounds_toArray, List.set_cons_zero, List.set_cons_succ]
  refine H_put (i := 12) 34 (v := .int .i64 ((nl : Int) + m)) rfl rfl (by kernel_rfl) (by kernel_rfl) (by kernel_rfl) (fun _ _ _ h => h) (Or.inl ⟨by rfl, fun w' hw' => ?_⟩) hS ?_
  · go_simp; rw [IntKind.wrap_i64]; omega
  simp only [Act.put, List.setIfInBounds_toArray, List.set_cons_zero, List.set_cons_succ]
  refine H_put (i := 15) 37 (v := .int .i64 ((nl : Int) + m + tl)) rfl rfl (by kernel_rfl) (by kernel_rfl) (by kernel_rfl) (fun _ _ _ h => h) (Or.inl ⟨by rfl, fun w' hw' => ?_⟩) hS ?_
  · go_simp; rw [IntKind.wrap_i64]; omega
  simp only [Act.put, List.setIfInBounds_toArray, List.set_cons_zero, List.set_cons_succ]
  refine H_call (i := 16) 38 29 #[.int .i64 ((nl : Int) + m + tl)] (by kernel_rfl) rfl rfl (by rfl) (by go_simp) (HS.out w2) ?_
  rintro e w3 ⟨rfl, hw3⟩
  rw [hw3]
  have hS2 : (fun w' : World => w'.heap[l]? = some (.cells #[Ptr p, .int .i64 (L.fr : Int), .int .i64 (ct : Int), .int .i64 (L.ep : Int), .bool false, gv, .int .i64 (us : Int), .int .i64 (k : Int), .slice ta m tc] 35 (0, 0))) _ := hS
  refine ⟨_, _, rfl, hS2, fun w' h => h, ?_⟩
  clear hS; have hS := hS2; clear hS2
  simp only [Act.put, List.setIfInBounds_toArray, List.set_cons_zero, List.set_cons_succ]
  refine H_call (i := 18) 40 15 #[Ptr l] (by kernel_rfl) rfl rfl (by rfl) (by go_simp) (HR.out w2 HB2.out) ?_
  rintro e w4 ⟨rfl, A4⟩
  have HA4 := hid A4
  have HB4 := hid (A4.at' HB2.out id)
  clear A4
  have hS2 : (fun w' : World => w'.heap[l]? = some (.cells #[Ptr p, .int .i64 (L.fr : Int), .int .i64 (ct : Int), .int .i64 (L.ep : Int), .bool false, gv, .int .i64 (us : Int), .int .i64 (k : Int), .slice ta m tc] 35 (0, 0))) _ := HB4.out
  refine ⟨_, _, rfl, hS2, fun w' h => h, ?_⟩
  clear hS; have hS := hS2; clear hS2
  simp only [Act.put, List.setIfInBounds_toArray, List.set_cons_zero, List.set_cons_succ]
  refine H_put (i := 19) 41 (v := .bool true) rfl rfl (by kernel_rfl) (by kernel_rfl) (by kernel_rfl) (fun _ _ _ h => h) (Or.inl ⟨by rfl, fun w' hw' => ?_⟩) hS ?_
  · go_simp
  simp only [Act.put, List.setIfInBounds_toArray, List.set_cons_zero, List.set_cons_succ]
  refine wpAnyH_done (by kernel_rfl) ?_ _
  go_wp2
  go_ret
  exact ⟨rfl, HQ1.out.2.1.trans ((Touch.refl _ _).drew.trans (HA2.out.trans HA4.out))⟩
set_option maxRecDepth 100000 in
set_option maxHeartbeats 2000000 in
theorem lappend_ok {w : World} {O : Nat → Prop} {l p : Nat} {gv tv : Value} {hs : List Part} {L : LS} (h : IsLogV w O l p gv tv hs L) (hk : L.Ok) (hcl : L.cl = false) (a : Option Addr) (bs : List UInt8) (n cap : Nat) (hn : bs.length = n) (hA : At w a bs) (hb : n ≤ 4096)
    (hr : W.secs (W.gbytes (L.R ++ [bs])).length ≤ L.ct - W.usedOf L.G) :
    Calls Tryd.prog 9 #[Ptr l, .slice a n cap] w (PApp w O l p { L with R := L.R ++ [bs] } 0) := by
  obtain ⟨ta, tc, htv, htc, hta, htq⟩ := own_cq h.texts
  subst htv
  have hl := hk.len
  obtain ⟨m, hm⟩ : ∃ m, m = (W.texts L.R).length := ⟨_, rfl⟩
  obtain ⟨k, hkr⟩ : ∃ k, k = L.R.length := ⟨_, rfl⟩
  obtain ⟨us, hus⟩ : ∃ us, us = W.usedOf L.G := ⟨_, rfl⟩
  obtain ⟨ct, hct⟩ : ∃ ct, ct = L.ct := ⟨_, rfl⟩
  have husb : us ≤ ct ∧ ct ≤ 10000 := by rw [hus, hct]; exact ⟨hk.us, hk.ct⟩
  have HB := hid (show w.heap[l]? = some (.cells #[Ptr p, .int .i64 (L.fr : Int), .int .i64 (ct : Int), .int .i64 (L.ep : Int), .bool false, gv, .int .i64 (us : Int), .int .i64 (k : Int), .slice ta m tc] 35 (0, 0)) by rw [hct, hus, hkr, hm, ← hcl]; exact h.box)
  have c0 : w.cell? ⟨l, 0, none⟩ = some (Ptr p) := cellOf HB.out 0
  have c4 : w.cell? ⟨l, 4, none⟩ = some (.bool false) := cellOf HB.out 4
  have H := hid (lmade_yes l p w c0)
  have h' : ¬ (4096 : Int) < (n : Int) := by omega
  have hcv : (convert 22 9 (.slice a n cap)).run Tryd.prog w = .ok (.string ⟨bs.toArray⟩) w := by rw [← hn]; exact conv_at w a bs cap hA
  have HP := hid (putText_any none [] 0 bs w (by decide) (by omega) (fun _ => rfl) (At.nil _ _))
  obtain ⟨tl, htl⟩ : ∃ tl, tl = (W.text bs).length := ⟨_, rfl⟩
  have htl2 : tl ≤ 5000 := by rw [htl, W.text, List.length_append]; have := M.len_enc10 (n := bs.length) (by omega); omega
  obtain ⟨nl, hnl⟩ : ∃ nl, nl = (M.enc (k + 1)).length := ⟨_, rfl⟩
  have hnl2 : nl ≤ 10 := by rw [hnl]; exact M.len_enc10 (by omega)
  have hm2 : m ≤ 2330000 := by rw [hm]; exact hl.1
  have hk2 : k ≤ 2330000 := by rw [hkr]; exact hl.2
  have hg : (W.gbytes (L.R ++ [bs])).length = nl + m + tl := by rw [W.gbytes, show (L.R ++ [bs]).length = k + 1 by simp [hkr], List.length_append, W.texts_app, W.texts_one, List.length_append, ← hnl, ← hm, ← htl]; omega
  rw [hg] at hr
  have HN := hid (fun w' => show Calls Tryd.prog 30 #[.int .i64 ((k : Int) + 1)] w' (POwn w' (M.enc (k + 1))) by rw [show (k : Int) + 1 = ((k + 1 : Nat) : Int) by omega]; exact number_any (k + 1) w' (by omega))
  have HS := hid (fun w' => show Calls Tryd.prog 29 #[.int .i64 ((nl : Int) + m + tl)] w' (Tells (.int .i64 (W.secs (nl + m + tl) : Int)) w') by rw [show (nl : Int) + m + tl = ((nl + m + tl : Nat) : Int) by omega]; exact sectorsOf_any (nl + m + tl) w' (by omega))
  have HR := hid (fun w' (hb' : w'.heap[l]? = some (.cells #[Ptr p, .int .i64 (L.fr : Int), .int .i64 (ct : Int), .int .i64 (L.ep : Int), .bool false, gv, .int .i64 (us : Int), .int .i64 (k : Int), .slice ta m tc] 35 (0, 0))) => lroom_any l (ct : Int) (us : Int) w' (cellOf hb' 2) (cellOf hb' 6) (by omega) (by omega) (by omega))
  obtain ⟨sc, hsc⟩ : ∃ sc, sc = W.secs (nl + m + tl) := ⟨_, rfl⟩
  rw [← hsc] at HS hr
  have hr' : ¬ ((ct : Int) - us < sc) := by rw [← hus, ← hct] at hr; omega
  have HH := hid h
  have HK := hid (And.intro hg (And.intro hm (And.intro hkr (And.intro hus (And.intro hct (And.intro htl (And.intro hnl (And.intro hta (And.intro htq hcl)))))))))
  clear hg hm hkr hus hct htl hnl hsc hr hl htc hta htq hk h hA hn hcl
  go_enter Tryd.func9, Tryd.ntmps9
  go_upto_region 8 with (first
    | (go_at_call 27; refine H.out.mono ?_; rintro e _ ⟨rfl, hw⟩; rw [hw]; clear hw)
    | (go_at_call 28; refine HP.out.mono ?_; rintro e w1 ⟨v1, rfl, o1, A1⟩; obtain ⟨ea, ec, hv1, q1, q2, q3⟩ := own_cq o1; rw [List.nil_append] at hv1 q3 o1; have hv2 : v1 = .slice ea tl ec := by rw [hv1, HK.out.2.2.2.2.2.1]; rfl
       subst hv2; obtain ⟨eb, eo, hea⟩ := q3.at.ad (W.text_pos bs); subst hea; have HQ1 := hid (And.intro o1 (And.intro A1 (And.intro q2 q3))); clear o1 A1 q1 q2 q3 hv1))
  refine H_begin (S := fun w' : World => w'.heap[l]? = some (.cells #[Ptr p, .int .i64 (L.fr : Int), .int .i64 (ct : Int), .int .i64 (L.ep : Int), .bool false, gv, .int .i64 (us : Int), .int .i64 (k : Int), .slice ta m tc] 35 (0, 0))) (by kernel_rfl) ?_
  have hS : (fun w' : World => w'.heap[l]? = some (.cells #[Ptr p, .int .i64 (L.fr : Int), .int .i64 (ct : Int), .int .i64 (L.ep : Int), .bool false, gv, .int .i64 (us : Int), .int .i64 (k : Int), .slice ta m tc] 35 (0, 0))) w1.drew := (HQ1.out.2.1.at' HB.out id)
  refine H_put (i := 0) 22 (v := Ptr l) rfl rfl (by kernel_rfl) (by kernel_rfl) (by kernel_rfl) (fun _ _ _ h => h) (Or.inl ⟨by rfl, fun w' hw' => ?_⟩) hS ?_
  · go_simp
  simp only [Act.put, List.setIfInBounds_toArray, List.set_cons_zero, List.set_cons_succ]
  refine H_put (i := 1) 23 (v := Ptr l) rfl rfl (by kernel_rfl) (by kernel_rfl) (by kernel_rfl) (fun _ _ _ h => h) (Or.inl ⟨by rfl, fun w' hw' => ?_⟩) hS ?_
  · go_simp
  simp only [Act.put, List.setIfInBounds_toArray, List.set_cons_zero, List.set_cons_succ]
  refine H_put (i := 2) 24 (v := .pointer (some ⟨l, 7, none⟩)) rfl rfl (by kernel_rfl) (by kernel_rfl) (by kernel_rfl) (fun _ _ _ h => h) (Or.inl ⟨by rfl, fun w' hw' => ?_⟩) hS ?_
  · go_simp
  simp only [Act.put, List.setIfInBounds_toArray, List.set_cons_zero, List.set_cons_succ]
  refine H_put (i := 3) 25 (v := .int .i64 (k : Int)) rfl rfl (by kernel_rfl) (by kernel_rfl) (by kernel_rfl) (fun _ _ _ h => h) (Or.inl ⟨by rfl, fun w' hw' => ?_⟩) hS ?_
  · have c : w'.cell? ⟨l, 7, none⟩ = some (.int .i64 (k : Int)) := cellOf (hw') 7; go_simp
  simp only [Act.put, List.setIfInBounds_toArray, List.set_cons_zero, List.set_cons_succ]
  refine H_put (i := 4) 26 (v := .int .i64 ((k : Int) + 1)) rfl rfl (by kernel_rfl) (by kernel_rfl) (by kernel_rfl) (fun _ _ _ h => h) (Or.inl ⟨by rfl, fun w' hw' => ?_⟩) hS ?_
  · go_simp; rw [IntKind.wrap_i64]; omega
  simp only [Act.put, List.setIfInBounds_toArray, List.set_cons_zero, List.set_cons_succ]
  refine H_put (i := 7) 29 (v := Ptr l) rfl rfl (by kernel_rfl) (by kernel_rfl) (by kernel_rfl) (fun _ _ _ h => h) (Or.inl ⟨by rfl, fun w' hw' => ?_⟩) hS ?_
  · go_simp
  simp only [Act.put, List.setIfInBounds_toArray, List.set_cons_zero, List.set_cons_succ]
  refine H_put (i := 8) 30 (v := Ptr l) rfl rfl (by kernel_rfl) (by kernel_rfl) (by kernel_rfl) (fun _ _ _ h => h) (Or.inl ⟨by rfl, fun w' hw' => ?_⟩) hS ?_
  · go_simp
  simp only [Act.put, List.setIfInBounds_toArray, List.set_cons_zero, List.set_cons_succ]
  refine H_put (i := 9) 31 (v := .pointer (some ⟨l, 8, none⟩)) rfl rfl (by kernel_rfl) (by kernel_rfl) (by kernel_rfl) (fun _ _ _ h => h) (Or.inl ⟨by rfl, fun w' hw' => ?_⟩) hS ?_
  · go_simp
  simp only [Act.put, List.setIfInBounds_toArray, List.set_cons_zero, List.set_cons_succ]
  refine H_put (i := 10) 32 (v := .slice ta m tc) rfl rfl (by kernel_rfl) (by kernel_rfl) (by kernel_rfl) (fun _ _ _ h => h) (Or.inl ⟨by rfl, fun w' hw' => ?_⟩) hS ?_
  · have c : w'.cell? ⟨l, 8, none⟩ = some (.slice ta m tc) := cellOf (hw') 8; go_simp
  simp only [Act.put, List.setIfInBounds_toArray, List.set_cons_zero, List.set_cons_succ]
  refine H_put (i := 11) 33 (v := .int .i64 (m : Int)) rfl rfl (by kernel_rfl) (by kernel_rfl) (by kernel_rfl) (fun _ _ _ h => h) (Or.inl ⟨by rfl, fun w' hw' => ?_⟩) hS ?_
  · go_simp
  simp only [Act.put, List.setIfInBounds_toArray, List.set_cons_zero, List.set_cons_succ]
  refine H_put (i := 13) 35 (v := .slice (some ⟨eb, eo, none⟩) tl ec) rfl rfl (by kernel_rfl) (by kernel_rfl) (by kernel_rfl) (fun _ _ _ h => h) (Or.inl ⟨by rfl, fun w' hw' => ?_⟩) hS ?_
  · go_simp
  simp only [Act.put, List.setIfInBounds_toArray, List.set_cons_zero, List.set_cons_succ]
  refine H_put (i := 14) 36 (v := .int .i64 (tl : Int)) rfl rfl (by kernel_rfl) (by kernel_rfl) (by kernel_rfl) (fun _ _ _ h => h) (Or.inl ⟨by rfl, fun w' hw' => ?_⟩) hS ?_
  · go_simp
  simp only [Act.put, List.setIfInBounds_toArray, List.set_cons_zero, List.set_cons_succ]
  refine H_put (i := 17) 39 (v := Ptr l) rfl rfl (by kernel_rfl) (by kernel_rfl) (by kernel_rfl) (fun _ _ _ h => h) (Or.inl ⟨by rfl, fun w' hw' => ?_⟩) hS ?_
  · go_simp
  simp only [Act.put, List.setIfInBounds_toArray, List.set_cons_zero, List.set_cons_succ]
  refine H_call (i := 5) 27 30 #[.int .i64 ((k : Int) + 1)] (by kernel_rfl) rfl rfl (by rfl) (by go_simp) (HN.out w1.drew) ?_
  rintro e w2 ⟨v2, rfl, o2, A2⟩
  obtain ⟨na, nc, hv2, _, _, _⟩ := own_cq o2
  rw [← HK.out.2.2.2.2.2.2.1] at hv2
  subst hv2
  have HA2 := hid A2
  have HB2 := hid (A2.at' hS id)
  clear A2 o2
  have hS2 : (fun w' : World => w'.heap[l]? = some (.cells #[Ptr p, .int .i64 (L.fr : Int), .int .i64 (ct : Int), .int .i64 (L.ep : Int), .bool false, gv, .int .i64 (us : Int), .int .i64 (k : Int), .slice ta m tc] 35 (0, 0))) _ := HB2.out
  refine ⟨_, _, rfl, hS2, fun w' h => h, ?_⟩
  clear hS; have hS := hS2; clear hS2
  simp only [Act.put, List.setIfInBounds_toArray, List.set_cons_zero, List.set_cons_succ]
  refine H_put (i := 6) 28 (v := .int .i64 (nl : Int)) rfl rfl (by kernel_rfl) (by kernel_rfl) (by kernel_rfl) (fun _ _ _ h => h) (Or.inl ⟨by rfl, fun w' hw' => ?_⟩) hS ?_
  · go_simp
  simp only [Act.put, List.setIfInBounds_toArray, List.set_cons_zero, List.set_cons_succ]
  refine H_put (i := 12) 34 (v := .int .i64 ((nl : Int) + m)) rfl rfl (by kernel_rfl) (by kernel_rfl) (by kernel_rfl) (fun _ _ _ h => h) (Or.inl ⟨by rfl, fun w' hw' => ?_⟩) hS ?_
  · go_simp; rw [IntKind.wrap_i64]; omega
  simp only [Act.put, List.setIfInBounds_toArray, List.set_cons_zero, List.set_cons_succ]
  refine H_put (i := 15) 37 (v := .int .i64 ((nl : Int) + m + tl)) rfl rfl (by kernel_rfl) (by kernel_rfl) (by kernel_rfl) (fun _ _ _ h => h) (Or.inl ⟨by rfl, fun w' hw' => ?_⟩) hS ?_
  · go_simp; rw [IntKind.wrap_i64]; omega
  simp only [Act.put, List.setIfInBounds_toArray, List.set_cons_zero, List.set_cons_succ]
  refine H_call (i := 16) 38 29 #[.int .i64 ((nl : Int) + m + tl)] (by kernel_rfl) rfl rfl (by rfl) (by go_simp) (HS.out w2) ?_
  rintro e w3 ⟨rfl, hw3⟩
  rw [hw3]
  have hS2 : (fun w' : World => w'.heap[l]? = some (.cells #[Ptr p, .int .i64 (L.fr : Int), .int .i64 (ct : Int), .int .i64 (L.ep : Int), .bool false, gv, .int .i64 (us : Int), .int .i64 (k : Int), .slice ta m tc] 35 (0, 0))) _ := hS
  refine ⟨_, _, rfl, hS2, fun w' h => h, ?_⟩
  clear hS; have hS := hS2; clear hS2
  simp only [Act.put, List.setIfInBounds_toArray, List.set_cons_zero, List.set_cons_succ]
  refine H_call (i := 18) 40 15 #[Ptr l] (by kernel_rfl) rfl rfl (by rfl) (by go_simp) (HR.out w2 HB2.out) ?_
  rintro e w4 ⟨rfl, A4⟩
  have HA4 := hid A4
  have HB4 := hid (A4.at' HB2.out id)
  clear A4
  have hS2 : (fun w' : World => w'.heap[l]? = some (.cells #[Ptr p, .int .i64 (L.fr : Int), .int .i64 (ct : Int), .int .i64 (L.ep : Int), .bool false, gv, .int .i64 (us : Int), .int .i64 (k : Int), .slice ta m tc] 35 (0, 0))) _ := HB4.out
  refine ⟨_, _, rfl, hS2, fun w' h => h, ?_⟩
  clear hS; have hS := hS2; clear hS2
  simp only [Act.put, List.setIfInBounds_toArray, List.set_cons_zero, List.set_cons_succ]
  refine H_put (i := 19) 41 (v := .bool false) rfl rfl (by kernel_rfl) (by kernel_rfl) (by kernel_rfl) (fun _ _ _ h => h) (Or.inl ⟨by rfl, fun w' hw' => ?_⟩) hS ?_
  · go_simp
  simp only [Act.put, List.setIfInBounds_toArray, List.set_cons_zero, List.set_cons_succ]
  refine wpAnyH_done (by kernel_rfl) ?_ _
  have A4 : Adds w w4 := HQ1.out.2.1.trans ((Touch.refl _ _).drew.trans (HA2.out.trans HA4.out))
  have HA := hid A4
  have HO := hid (row_touch HH.out.texts A4 (fun _ _ => id))
  have HT := hid (((HQ1.out.2.2.2.at.adds (Touch.refl _ w1).drew).adds HA2.out).adds HA4.out)
  rw [← HK.out.2.1] at HO
  clear A4
  have c84 : w4.cell? ⟨l, 8, none⟩ = some (.slice ta m tc) := cellOf HB4.out 8
  go_wp2_with (first
    | (at_builtin; refine append_t rfl _ _ rfl (.slice ta m tc) m (S (W.texts L.R)) rfl HO.out ⟨eb, eo, none⟩ (W.text bs) tl ec HK.out.2.2.2.2.2.1.symm rfl HT.out (by omega) ?_; intro v5 w5 G5
       obtain ⟨va, vc, hv5, _, _, _⟩ := own_cq G5.1
       subst hv5
       have HG := hid G5
       have HB5 := hid (G5.touch.at' HB4.out (by rw [HK.out.2.1]; exact HH.out.ne.2.1))
       clear G5
       have c7 : w5.cell? ⟨l, 7, none⟩ = some (.int .i64 (k : Int)) := cellOf HB5.out 7
       have c8 : w5.cell? ⟨l, 8, none⟩ = some (.slice ta m tc) := cellOf HB5.out 8
       have f7 : w5.frozen? ⟨l, 7, none⟩ = false := frozen_of_row w5 l 7 _ 35 HB5.out
       have f8 : w5.frozen? ⟨l, 8, none⟩ = false := frozen_of_row w5 l 8 _ 35 HB5.out))
  go_ret
  exact app_mem HH.out HA.out HG.out HB5.out HK.out.2.1 HK.out.2.2.1 HK.out.2.2.2.1 HK.out.2.2.2.2.1 HK.out.2.2.2.2.2.1 HK.out.2.2.2.2.2.2.2.2.2
/-! The answer, and the state behind it. -/
def appE (L : LS) (bs : List UInt8) : Int := if L.cl = true then 42 else if 4096 < bs.length then 3 else if W.secs (W.gbytes (L.R ++ [bs])).length ≤ L.ct - W.usedOf L.G then 0 else 31
def appL (L : LS) (bs : List UInt8) : LS := if appE L bs = 0 then { L with R := L.R ++ [bs] } else L
set_option maxRecDepth 100000 in
theorem LS.Ok.app {L : LS} (h : L.Ok) (bs : List UInt8) : (appL L bs).Ok := by
  unfold appL
  split
  · rename_i h0
    unfold appE at h0
    split at h0
    · cases h0
    · split at h0
      · cases h0
      · split at h0
        · rename_i hs
          exact ⟨h.fr, h.ct, h.ep, h.us, fun _ => hs, h.good⟩
        · cases h0
  · exact h
theorem IsLog.same {w : World} {O : Nat → Prop} {l p : Nat} {L : LS} (h : IsLog w O l p L) {z : Int} {w' : World} (hA : Adds w w') : PApp w O l p L z (.returned (.int .i64 z)) w' := ⟨rfl, O, h.adds hA, hA.mono (fun _ _ c => c.elim), fun _ hk => .inl hk⟩
set_option maxRecDepth 100000 in
theorem lappend_any {w : World} {O : Nat → Prop} {l p : Nat} {L : LS} (h : IsLog w O l p L) (hk : L.Ok) (a : Option Addr) (bs : List UInt8) (n cap : Nat) (hn : bs.length = n) (hA : At w a bs) : Calls Tryd.prog 9 #[Ptr l, .slice a n cap] w (PApp w O l p (appL L bs) (appE L bs)) := by
  have hL := h
  obtain ⟨gv, tv, hs, h⟩ := h
  have c0 : w.cell? ⟨l, 0, none⟩ = some (Ptr p) := cellOf h.box 0
  have c4 : w.cell? ⟨l, 4, none⟩ = some (.bool L.cl) := cellOf h.box 4
  by_cases hc : L.cl = true
  · have e1 : appE L bs = 42 := by rw [appE, if_pos hc]
    have e2 : appL L bs = L := by rw [appL, e1]; rfl
    rw [e1, e2]
    rw [hc] at c4
    refine (lappend_closed l p a n cap w c0 c4).mono ?_
    rintro e w' ⟨rfl, hw⟩
    rw [hw]
    exact hL.same (Touch.refl _ _)
  · have hc' : L.cl = false := by simpa using hc
    rw [hc'] at c4
    by_cases hb : 4096 < bs.length
    · have e1 : appE L bs = 3 := by rw [appE, if_neg hc, if_pos hb]
      have e2 : appL L bs = L := by rw [appL, e1]; rfl
      rw [e1, e2]
      refine (lappend_big l p a n cap w c0 c4 (by omega)).mono ?_
      rintro e w' ⟨rfl, hw⟩
      rw [hw]
      exact hL.same (Touch.refl _ _)
    · by_cases hr : W.secs (W.gbytes (L.R ++ [bs])).length ≤ L.ct - W.usedOf L.G
      · have e1 : appE L bs = 0 := by rw [appE, if_neg hc, if_neg hb, if_pos hr]
        have e2 : appL L bs = { L with R := L.R ++ [bs] } := by rw [appL, if_pos e1]
        rw [e1, e2]
        exact lappend_ok h hk hc' a bs n cap hn hA (by omega) hr
      · have e1 : appE L bs = 31 := by rw [appE, if_neg hc, if_neg hb, if_neg hr]
        have e2 : appL L bs = L := by rw [appL, e1]; rfl
        rw [e1, e2]
        refine (lappend_full h hk hc' a bs n cap hn hA (by omega) hr).mono ?_
        rintro e w' ⟨rfl, hw⟩
        exact hL.same hw
end Go.Proofs.YtlgbgedkedddaaaDoor
