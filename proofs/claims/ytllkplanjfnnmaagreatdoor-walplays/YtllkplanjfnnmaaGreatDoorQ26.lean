/- Texts put together: WFind, WOpen. -/
import Derived.Test.YtllkplanjfnnmaaGreatDoorQ25
import Derived.WalkMore
import Derived.Deep.LoopGhost
/- The groups that stand are found: the walk. -/
namespace Go.Proofs.YtllkplanjfnnmaaGreatDoor
open Go.RowKit

/-- A sector of the disk, read. -/
def PSec (w : World) (bs : List UInt8) (e : Ending) (w' : World) : Prop := ∃ g cap, e = .returned (.tuple #[.slice (some ⟨g, 0, none⟩) 256 cap, .int .i64 0]) ∧ Hid (At w' (some ⟨g, 0, none⟩) bs ∧ bs.length = 256 ∧ Adds w w')
set_option maxRecDepth 100000 in
theorem dread_any {w : World} {O : Nat → Prop} {p : Nat} {D : dSt} {n : Nat} (h : IsDO w O p D) (hk : DOk D n) (hn : n ≤ 900) (hon : D.left ≠ 0) (i : Int) (hi : 0 ≤ i ∧ i < D.size) : Calls Tryz.prog 36 #[Ptr p, .int .i64 i] w (PSec w (hasOf D.H D.W i)) := by
  obtain ⟨hb, wv, hd, h1, h2, h3⟩ := h
  have := hk.waits
  refine (read_ok 0 p hb wv D i w hd (by omega) hi hon).mono ?_
  intro e w' hr
  obtain ⟨g, cap, he, hc, hg, hlt, hA⟩ := hr.reads
  exact ⟨g, cap, he, fun j c hj => ⟨g, 0, rfl, by rw [Nat.zero_add]; exact hc j c hj⟩, hasOf_len i hd.good D.W hd.goodW, hA⟩
set_option maxRecDepth 100000 in
/-- An opened piece. -/
theorem sopen_piece {w : World} (g cap : Nat) (s : List UInt8) (hl : s.length = 256) (hA : At w (some ⟨g, 0, none⟩) s) (hT : Tab w) (h0 : M.oErr s = 0) :
    Calls Tryz.prog 75 #[.slice (some ⟨g, 0, none⟩) 256 cap] w fun e w' => ∃ o, e = .returned (.tuple #[.int .u64 (M.oMark s : Int), .int .u8 ((M.oKind s).toNat : Int), .slice (some ⟨w.heap.size, o, none⟩) (M.oBody s).length (M.oBody s).length, .int .i64 0]) ∧ Hid (At w' (some ⟨w.heap.size, o, none⟩) (M.oBody s) ∧ Adds w w') := by
  have hn := (M.oErr_good h0).2
  have hb : M.oBody s = (s.drop 10).take (M.lenOf s) := by rw [M.oBody, if_pos h0]
  have hlb : (M.oBody s).length = M.lenOf s := by rw [hb, List.length_take, List.length_drop]; omega
  refine (sopen_good (some ⟨g, 0, none⟩) s cap w hl (fun e => by cases e) hA hT h0 hn _ rfl).mono ?_
  rintro e w' ⟨rfl, hS, hA'⟩
  refine ⟨_, by rw [M.oMark, if_pos h0, M.oKind, if_pos h0, hlb], ?_, hA'⟩
  by_cases hz : M.lenOf s = 0
  · rw [show M.oBody s = [] from List.eq_nil_of_length_eq_zero (by omega)]
    exact At.nil _ _
  · rw [if_neg hz, hb]
    exact hS.part 10 (M.lenOf s)
set_option maxRecDepth 100000 in
theorem find_none {sa va : Option Addr} {vc : Nat} (h : sa = sufAt va vc 4) (hv : va = none → vc = 0) (e : sa = none) : vc - 4 = 0 := by
  unfold sufAt at h
  split at h
  · omega
  · rw [e] at h
    cases va with
    | none => have := hv rfl; omega
    | some a => cases h
set_option maxRecDepth 100000 in
theorem find_len {hs : List Part} {gs : List (List UInt8)} {u k : Nat} (h : hs.map (·.bs) = gs) (hu : W.usedOf gs = u) (hk : u ≤ k) (hk2 : k ≤ 10000) : hs.length ≤ 10000000 := by
  have h3 : ∀ G : List (List UInt8), G.length ≤ W.usedOf G := fun G => by
    induction G with
    | nil => exact Nat.le_refl _
    | cons g G ih => rw [W.usedOf, List.length_cons]; have := W.secs_pos g.length; omega
  have h4 := h3 gs
  have h5 : hs.length = gs.length := by rw [← h, List.length_map]
  omega
set_option maxRecDepth 100000 in
theorem find_end {w wr w' : World} {l p : Nat} {L : LS} {gv : Value} {hs : List Part} {gs : List (List UInt8)} {v : Value} {b : List UInt8} {u : Nat} {x : List (List UInt8) × Nat} (h : FindI w wr l p L gv hs gs v b) (hA : Adds wr w') (hx : x = (gs, u)) : PFind w l p { L with G := x.1, R := [] } (.returned (.int .i64 0)) w' := by
  subst hx
  exact ⟨rfl, (h.adds hA).log, (h.adds hA).keep⟩
set_option maxRecDepth 100000 in
theorem find_stop {ep k n u : Nat} {sec : Nat → List UInt8} {s b : List UInt8} {gs : List (List UInt8)} (hs : s = sec k) (hn : 0 < n) (h : (M.oErr s ≠ 0 ∨ M.oMark s ≠ W.mark ep k ∨ M.oKind s ≠ W.kind b.length) ∨ (¬ ((b ++ M.oBody s).length < W.need (b ++ M.oBody s) ∧ (M.oBody s).length = 233) ∧ ((b ++ M.oBody s).length ≠ W.need (b ++ M.oBody s) ∨ W.recs ((b ++ M.oBody s).drop 4) = []))) : W.find ep sec n k b gs u = (gs, u) := by
  obtain ⟨m, rfl⟩ : ∃ m, n = m + 1 := ⟨n - 1, by omega⟩
  rw [W.find, ← hs]
  rcases h with h | ⟨h1, h2⟩
  · rw [if_pos h]
  · by_cases hh : M.oErr s ≠ 0 ∨ M.oMark s ≠ W.mark ep k ∨ M.oKind s ≠ W.kind b.length
    · rw [if_pos hh]
    · rw [if_neg hh, if_neg h1, if_pos h2]
set_option maxRecDepth 100000 in
theorem find_on {ep k n u : Nat} {sec : Nat → List UInt8} {s b : List UInt8} {gs : List (List UInt8)} (hs : s = sec k) (h : ¬ (M.oErr s ≠ 0 ∨ M.oMark s ≠ W.mark ep k ∨ M.oKind s ≠ W.kind b.length)) (h1 : (b ++ M.oBody s).length < W.need (b ++ M.oBody s) ∧ (M.oBody s).length = 233) : W.find ep sec (n + 1) k b gs u = W.find ep sec n (k + 1) (b ++ M.oBody s) gs u := by
  rw [W.find, ← hs, if_neg h, if_pos h1]
set_option maxRecDepth 100000 in
theorem find_in {ep k n u : Nat} {sec : Nat → List UInt8} {s b : List UInt8} {gs : List (List UInt8)} (hs : s = sec k) (h : ¬ (M.oErr s ≠ 0 ∨ M.oMark s ≠ W.mark ep k ∨ M.oKind s ≠ W.kind b.length)) (h1 : (b ++ M.oBody s).length = W.need (b ++ M.oBody s)) (h2 : W.recs ((b ++ M.oBody s).drop 4) ≠ []) : W.find ep sec (n + 1) k b gs u = W.find ep sec n (k + 1) [] (gs ++ [(b ++ M.oBody s).drop 4]) (k + 1) := by
  rw [W.find, ← hs, if_neg h, if_neg (by rw [h1]; omega), if_neg (by simp only [not_or]; exact ⟨fun c => c h1, h2⟩)]
set_option maxRecDepth 100000 in
theorem find_grp {w w6 w8 w9 : World} {l p : Nat} {L : LS} {gv gv8 : Value} {hs : List Part} {gs : List (List UInt8)} {b c s : List UInt8} {X : List (List UInt8) × Nat} {sec : Nat → List UInt8} {vb vo tn vc rn k u fr ct ep : Nat} {i : Value} (h : FindI w w6 l p L gv hs gs (.slice (some ⟨vb, vo, none⟩) tn vc) (b ++ c)) (hF : W.FI k u b) (hu : W.usedOf gs = u) (hX : X = W.find ep sec (ct - k) k b gs u)
    (hG : Grew (w6.drew.alloc (.cells #[.slice (some ⟨vb, vo + 4, none⟩) (tn - 4) (vc - 4)] 56)) w8 56 gv gv8 (hs.length + 1) (hs.map PV ++ [.slice (some ⟨vb, vo + 4, none⟩) (tn - 4) (vc - 4)])) (hb8 : w8.heap[l]? = some (.cells #[Ptr p, .int .i64 (fr : Int), .int .i64 (ct : Int), .int .i64 (ep : Int), .bool L.cl, gv, .int .i64 (u : Int), .int .i64 0, .slice none 0 0] 83 (0, 0)))
    (hw9 : w9 = w8.setCell ⟨l, 5, none⟩ gv8) (htl : tn = (b ++ c).length) (hnd : tn = W.need (b ++ c)) (hc : c = M.oBody s) (hs0 : s = sec k) (hnn : ¬ (M.oErr s ≠ 0 ∨ M.oMark s ≠ W.mark ep k ∨ M.oKind s ≠ W.kind b.length)) (hAt : At w6 (some ⟨vb, vo, none⟩) (b ++ c)) (hrn : rn = (W.recs ((b ++ c).drop 4)).length) (hr0 : ¬ rn = 0) (hE : ct = L.ct ∧ fr = L.fr ∧ ep = L.ep) (hlt : k < ct) (hi : i = .int .i64 ((k + 1 : Nat) : Int)) :
    ∃ (k' : Nat) (b' : List UInt8) (gs' : List (List UInt8)) (u' : Nat) (gv' : Value) (hs' : List Part), k' ≤ ct ∧ i = .int .i64 (k' : Int) ∧ Hid (FindI w (w9.setCell ⟨l, 6, none⟩ (.int .i64 ((k : Int) + 1))) l p L gv' hs' gs' (.slice none 0 0) b' ∧ W.FI k' u' b' ∧ W.usedOf gs' = u' ∧ X = W.find ep sec (ct - k') k' b' gs' u') := by
  have hd := hF.done (c := c) (by rw [hc]; exact W.oBody_le s) (by rw [← htl, ← hnd])
  have hus : W.usedOf (gs ++ [(b ++ c).drop 4]) = k + 1 := by rw [W.usedOf_app, hu, hd]; simp [W.usedOf]
  have hl4 : ((b ++ c).drop 4).length = tn - 4 := by rw [List.length_drop, ← htl]
  have hT9 : Touch (fun j => j = l) w8 (w9.setCell ⟨l, 6, none⟩ (.int .i64 ((k : Int) + 1))) := by
    rw [hw9]
    exact Touch.setCell (T := fun j => j = l) (Touch.setCell (T := fun j => j = l) (Touch.refl _ w8) (fun _ => rfl) _) (fun _ => rfl) _
  have hb9 : w9.heap[l]? = some (.cells #[Ptr p, .int .i64 (fr : Int), .int .i64 (ct : Int), .int .i64 (ep : Int), .bool L.cl, gv8, .int .i64 (u : Int), .int .i64 0, .slice none 0 0] 83 (0, 0)) := by rw [hw9, setCell_eq_setRow w8 l 5 _ 83 _ _ hb8, setRow_heap w8 l _ _ 83 _ hb8]; rfl
  have hb10 : (w9.setCell ⟨l, 6, none⟩ (.int .i64 ((k : Int) + 1))).heap[l]? = some (LBox p { L with G := gs ++ [(b ++ c).drop 4], R := [] } gv8 (.slice none 0 0)) := by
    rw [setCell_eq_setRow w9 l 6 _ 83 _ _ hb9, setRow_heap w9 l _ _ 83 _ hb9]
    obtain ⟨e1, e2, e3⟩ := hE
    subst e1 e2 e3
    simp only [LBox, hus]
    rfl
  have hx : PQ w6 (fun j => Value.ownBlock (.slice (some ⟨vb, vo, none⟩) tn vc) = some j) ⟨some ⟨vb, vo + 4, none⟩, (b ++ c).drop 4, vc - 4⟩ := ⟨(hAt.suf 4).cq (fun b' o e => by
    obtain rfl : vb = b' := by simpa using congrArg (fun x => x.map Addr.block) e
    rfl), fun e => by cases e⟩
  have hG' : Grew (w6.drew.alloc (.cells #[.slice (some ⟨vb, vo + 4, none⟩) (tn - 4) (vc - 4)] 56)) w8 56 gv gv8 (hs.length + 1) (hs.map PV ++ [PV ⟨some ⟨vb, vo + 4, none⟩, (b ++ c).drop 4, vc - 4⟩]) := by
    show Grew _ _ _ _ _ _ (hs.map PV ++ [.slice (some ⟨vb, vo + 4, none⟩) ((b ++ c).drop 4).length (vc - 4)])
    rw [hl4]; exact hG
  refine ⟨k + 1, [], gs ++ [(b ++ c).drop 4], k + 1, gv8, hs ++ [⟨some ⟨vb, vo + 4, none⟩, (b ++ c).drop 4, vc - 4⟩], hlt, hi, h.group ((Touch.refl _ w6).drew.alloc _) hG' hx hT9 hb10, W.FI.start _, hus, ?_⟩
  rw [hX, show ct - k = (ct - (k + 1)) + 1 by omega, find_in hs0 hnn (by rw [← hc, ← htl, ← hnd]) (by rw [← hc]; intro e; rw [e] at hrn; exact hr0 hrn), ← hc]
set_option maxRecDepth 100000 in
set_option maxHeartbeats 8000000 in
theorem find_any {w : World} {O : Nat → Prop} {l p : Nat} {L : LS} {D : dSt} {n0 : Nat} (hb : w.heap[l]? = some (LBox p { L with G := [], R := [] } (.slice none 0 0) (.slice none 0 0))) (hL : L.ep ≤ 1000000000) (hct : L.ct ≤ 4000) (hfr : L.fr ≤ 4096) (hD : IsDO w O p D) (hk : DOk D n0) (hn0 : n0 ≤ 900) (hol : ¬ O l) (hT : Tab w) (hsz : L.fr + L.ct ≤ D.size) (hon : D.left ≠ 0) :
    Calls Tryz.prog 48 #[Ptr l] w (PFind w l p { L with G := (W.find L.ep (secOf D L.fr) L.ct 0 [] [] 0).1, R := [] }) := by
  obtain ⟨ct, hct2⟩ : ∃ ct, ct = L.ct := ⟨_, rfl⟩
  obtain ⟨fr, hfr2⟩ : ∃ fr, fr = L.fr := ⟨_, rfl⟩
  obtain ⟨ep, hep2⟩ : ∃ ep, ep = L.ep := ⟨_, rfl⟩
  rw [← hct2] at hct
  rw [← hfr2] at hfr
  rw [← hep2] at hL
  rw [← hct2, ← hfr2] at hsz
  have HZ := hid hsz
  have c2 : w.cell? ⟨l, 2, none⟩ = some (.int .i64 (ct : Int)) := by rw [cellOf hb 2, hct2]; rfl
  have hl : l < w.heap.size := (Array.getElem?_eq_some_iff.1 hb).1
  have hl0 : (0 : Nat) ≠ l := fun e => by
    have q := hT 0 (by decide)
    have c0 : w.cell? ⟨l, 0, none⟩ = some (Ptr p) := cellOf hb 0
    rw [← e] at c0
    rw [c0] at q
    cases q
  have HB := hid hb
  have HD := hid (And.intro hD (And.intro hk (And.intro hol (And.intro hT hon))))
  have HE := hid (And.intro hct2 (And.intro hfr2 hep2))
  obtain ⟨sec, hsec⟩ : ∃ sec, sec = secOf D fr := ⟨_, rfl⟩
  obtain ⟨X, hX⟩ : ∃ X, X = W.find L.ep (secOf D L.fr) L.ct 0 [] [] 0 := ⟨_, rfl⟩
  rw [← hX]
  rw [← hct2, ← hfr2, ← hep2, ← hsec] at hX
  have HX := hid hX
  clear hX
  have HS := hid hsec
  clear hb hD hk hol hT hon hct2 hfr2 hep2 hsz hsec
  go_enter Tryz.func48, Tryz.ntmps48
  go_wp2_with fail
  go_step3
  go_wp2_with fail
  go_step3
  go_wp2_with fail
  go_loopw [3, 16] (fun v i wr => ∃ (k : Nat) (b : List UInt8) (gs : List (List UInt8)) (u : Nat) (gv : Value) (hs : List Part), k ≤ ct ∧ i = .int .i64 (k : Int) ∧ Hid (FindI w wr l p L gv hs gs v b ∧ W.FI k u b ∧ W.usedOf gs = u ∧ X = W.find ep sec (ct - k) k b gs u)) (fun _ i _ => ct - (intOf i).toNat)
  case atStart => exact ⟨0, [], [], 0, .slice none 0 0, [], Nat.zero_le _, rfl, ⟨HB.out, World.ownsRow_nil _ _ _ _, fun _ hk => (by cases hk), fun _ hx => (by cases hx), rfl, World.ownsRow_nil _ _ _ _, fun _ hk => (by cases hk), Touch.refl _ _⟩, W.FI.start 0, rfl, HX.out⟩
  case round =>
    obtain ⟨k, b, gs, u, gv, hs, hkc, rfl, HI⟩ := hrel
    by_cases hlt : k < ct
    · obtain ⟨s, hs0⟩ : ∃ s, s = sec k := ⟨_, rfl⟩
      obtain ⟨ba, bc, hu3, hbc, hba, hbq⟩ := own_cq HI.out.1.brow
      obtain ⟨bn, hbn⟩ : ∃ bn, bn = b.length := ⟨_, rfl⟩
      rw [← hbn] at hu3 hbc
      subst hu3
      have hbn2 : bn ≤ 932000 := by rw [hbn, HI.out.2.1.len]; omega
      have HBN := hid (And.intro hbn (And.intro hba hbq))
      clear hbn hba hbq
      have HBr := hid (show wr.heap[l]? = some (.cells #[Ptr p, .int .i64 (fr : Int), .int .i64 (ct : Int), .int .i64 (ep : Int), .bool L.cl, gv, .int .i64 (u : Int), .int .i64 0, .slice none 0 0] 83 (0, 0)) by rw [HI.out.1.box, HE.out.1, HE.out.2.1, HE.out.2.2, ← HI.out.2.2.1]; rfl)
      have hDr : IsDO wr O p D := HD.out.1.touch HI.out.1.keep (fun j q c => by subst c; exact HD.out.2.2.1 q)
      have hTr : Tab wr := fun j hj => by have q := HD.out.2.2.2.1 j hj; rw [World.cell?_of_block (w := w) (HI.out.1.keep.block 0 (World.block_lt_of_cell? w _ q) hl0)]; exact q
      have HRd := hid (show Calls Tryz.prog 36 #[Ptr p, .int .i64 ((fr : Int) + k)] wr.drew (PSec wr.drew s) by rw [hs0, HS.out]; have q := dread_any (w := wr.drew) (hDr.adds (Touch.refl _ wr).drew) HD.out.2.1 hn0 HD.out.2.2.2.2 ((fr + k : Nat) : Int) (by have := HZ.out; omega); rw [show ((fr + k : Nat) : Int) = (fr : Int) + k by omega] at q; unfold secOf; rw [show ((fr + k : Nat) : Int) = (fr : Int) + k by omega]; exact q)
      have HTr := hid hTr
      have HC := hid hs0
      clear hDr hTr hs0
      go_upto_region 5 with fail
      refine H_begin (S := fun w' : World => w'.heap[l]? = some (.cells #[Ptr p, .int .i64 (fr : Int), .int .i64 (ct : Int), .int .i64 (ep : Int), .bool L.cl, gv, .int .i64 (u : Int), .int .i64 0, .slice none 0 0] 83 (0, 0))) (by kernel_rfl) ?_
      have hS : (fun w' : World => w'.heap[l]? = some (.cells #[Ptr p, .int .i64 (fr : Int), .int .i64 (ct : Int), .int .i64 (ep : Int), .bool L.cl, gv, .int .i64 (u : Int), .int .i64 0, .slice none 0 0] 83 (0, 0))) wr.drew := HBr.out
      refine H_put (i := 0) 20 (v := Ptr l) rfl rfl (by kernel_rfl) (by kernel_rfl) (by kernel_rfl) (fun _ _ _ h => h) (Or.inl ⟨by rfl, fun w' hw' => ?_⟩) hS ?_
      · go_simp
      simp only [Act.put, List.setIfInBounds_toArray, List.set_cons_zero, List.set_cons_succ]
      refine H_put (i := 1) 21 (v := Ptr l) rfl rfl (by kernel_rfl) (by kernel_rfl) (by kernel_rfl) (fun _ _ _ h => h) (Or.inl ⟨by rfl, fun w' hw' => ?_⟩) hS ?_
      · go_simp
      simp only [Act.put, List.setIfInBounds_toArray, List.set_cons_zero, List.set_cons_succ]
      refine H_put (i := 2) 22 (v := .pointer (some ⟨l, 0, none⟩)) rfl rfl (by kernel_rfl) (by kernel_rfl) (by kernel_rfl) (fun _ _ _ h => h) (Or.inl ⟨by rfl, fun w' hw' => ?_⟩) hS ?_
      · go_simp
      simp only [Act.put, List.setIfInBounds_toArray, List.set_cons_zero, List.set_cons_succ]
      refine H_put (i := 3) 23 (v := Ptr p) rfl rfl (by kernel_rfl) (by kernel_rfl) (by kernel_rfl) (fun _ _ _ h => h) (Or.inl ⟨by rfl, fun w' hw' => ?_⟩) hS ?_
      · have c : w'.cell? ⟨l, 0, none⟩ = some (Ptr p) := cellOf (hw') 0; go_simp
      simp only [Act.put, List.setIfInBounds_toArray, List.set_cons_zero, List.set_cons_succ]
      refine H_put (i := 4) 24 (v := Ptr l) rfl rfl (by kernel_rfl) (by kernel_rfl) (by kernel_rfl) (fun _ _ _ h => h) (Or.inl ⟨by rfl, fun w' hw' => ?_⟩) hS ?_
      · go_simp
      simp only [Act.put, List.setIfInBounds_toArray, List.set_cons_zero, List.set_cons_succ]
      refine H_put (i := 5) 25 (v := Ptr l) rfl rfl (by kernel_rfl) (by kernel_rfl) (by kernel_rfl) (fun _ _ _ h => h) (Or.inl ⟨by rfl, fun w' hw' => ?_⟩) hS ?_
      · go_simp
      simp only [Act.put, List.setIfInBounds_toArray, List.set_cons_zero, List.set_cons_succ]
      refine H_put (i := 6) 26 (v := .pointer (some ⟨l, 1, none⟩)) rfl rfl (by kernel_rfl) (by kernel_rfl) (by kernel_rfl) (fun _ _ _ h => h) (Or.inl ⟨by rfl, fun w' hw' => ?_⟩) hS ?_
      · go_simp
      simp only [Act.put, List.setIfInBounds_toArray, List.set_cons_zero, List.set_cons_succ]
      refine H_put (i := 7) 27 (v := .int .i64 (fr : Int)) rfl rfl (by kernel_rfl) (by kernel_rfl) (by kernel_rfl) (fun _ _ _ h => h) (Or.inl ⟨by rfl, fun w' hw' => ?_⟩) hS ?_
      · have c : w'.cell? ⟨l, 1, none⟩ = some (.int .i64 (fr : Int)) := cellOf (hw') 1; go_simp
      simp only [Act.put, List.setIfInBounds_toArray, List.set_cons_zero, List.set_cons_succ]
      refine H_put (i := 8) 28 (v := .int .i64 (k : Int)) rfl rfl (by kernel_rfl) (by kernel_rfl) (by kernel_rfl) (fun _ _ _ h => h) (Or.inl ⟨by rfl, fun w' hw' => ?_⟩) hS ?_
      · go_simp
      simp only [Act.put, List.setIfInBounds_toArray, List.set_cons_zero, List.set_cons_succ]
      refine H_put (i := 9) 29 (v := .int .i64 ((fr : Int) + k)) rfl rfl (by kernel_rfl) (by kernel_rfl) (by kernel_rfl) (fun _ _ _ h => h) (Or.inl ⟨by rfl, fun w' hw' => ?_⟩) hS ?_
      · go_simp; rw [IntKind.wrap_i64]; omega
      simp only [Act.put, List.setIfInBounds_toArray, List.set_cons_zero, List.set_cons_succ]
      refine H_call (i := 10) 30 36 #[Ptr p, .int .i64 ((fr : Int) + k)] (by kernel_rfl) rfl rfl (by rfl) (by go_simp) (HRd.out) ?_
      rintro e w2 ⟨sg, scap, rfl, HQ2⟩
      have HA2 := hid ((Touch.refl (fun _ => False) wr).drew.trans HQ2.out.2.2)
      have HB2 := hid (HQ2.out.2.2.at' hS id)
      have hS2 : (fun w' : World => w'.heap[l]? = some (.cells #[Ptr p, .int .i64 (fr : Int), .int .i64 (ct : Int), .int .i64 (ep : Int), .bool L.cl, gv, .int .i64 (u : Int), .int .i64 0, .slice none 0 0] 83 (0, 0))) _ := HB2.out
      refine ⟨_, _, rfl, hS2, fun w' h => h, ?_⟩
      clear hS; have hS := hS2; clear hS2
      simp only [Act.put, List.setIfInBounds_toArray, List.set_cons_zero, List.set_cons_succ]
      refine H_put (i := 11) 19 (v := .tuple #[.slice (some ⟨sg, 0, none⟩) 256 scap, .int .i64 0]) rfl rfl (by kernel_rfl) (by kernel_rfl) (by kernel_rfl) (fun _ _ _ h => h) (Or.inl ⟨by rfl, fun w' hw' => ?_⟩) hS ?_
      · go_simp
      simp only [Act.put, List.setIfInBounds_toArray, List.set_cons_zero, List.set_cons_succ]
      refine H_put (i := 12) 31 (v := .slice (some ⟨sg, 0, none⟩) 256 scap) rfl rfl (by kernel_rfl) (by kernel_rfl) (by kernel_rfl) (fun _ _ _ h => h) (Or.inl ⟨by rfl, fun w' hw' => ?_⟩) hS ?_
      · go_simp
      simp only [Act.put, List.setIfInBounds_toArray, List.set_cons_zero, List.set_cons_succ]
      refine H_put (i := 13) 32 (v := .int .i64 0) rfl rfl (by kernel_rfl) (by kernel_rfl) (by kernel_rfl) (fun _ _ _ h => h) (Or.inl ⟨by rfl, fun w' hw' => ?_⟩) hS ?_
      · go_simp
      simp only [Act.put, List.setIfInBounds_toArray, List.set_cons_zero, List.set_cons_succ]
      refine H_put (i := 14) 5 (v := .slice (some ⟨sg, 0, none⟩) 256 scap) rfl rfl (by kernel_rfl) (by kernel_rfl) (by kernel_rfl) (fun _ _ _ h => h) (Or.inl ⟨by rfl, fun w' hw' => ?_⟩) hS ?_
      · go_simp
      simp only [Act.put, List.setIfInBounds_toArray, List.set_cons_zero, List.set_cons_succ]
      refine H_put (i := 15) 6 (v := .int .i64 0) rfl rfl (by kernel_rfl) (by kernel_rfl) (by kernel_rfl) (fun _ _ _ h => h) (Or.inl ⟨by rfl, fun w' hw' => ?_⟩) hS ?_
      · go_simp
      simp only [Act.put, List.setIfInBounds_toArray, List.set_cons_zero, List.set_cons_succ]
      refine wpAnyH_done (by kernel_rfl) ?_ _
      have hkk : 0 < ct - k := by omega
      by_cases h0 : M.oErr s = 0
      · have HOp := hid (sopen_piece (w := w2) sg scap s HQ2.out.2.1 HQ2.out.1 (HTr.out.adds HA2.out) h0)
        obtain ⟨c, hc⟩ : ∃ c, c = M.oBody s := ⟨_, rfl⟩
        obtain ⟨cn, hcn⟩ : ∃ cn, cn = c.length := ⟨_, rfl⟩
        obtain ⟨mz, hmz⟩ : ∃ mz : Int, mz = (M.oMark s : Int) := ⟨_, rfl⟩
        obtain ⟨kz, hkz⟩ : ∃ kz : Int, kz = ((M.oKind s).toNat : Int) := ⟨_, rfl⟩
        obtain ⟨me, hme⟩ : ∃ me : Int, me = (W.mark ep k : Int) := ⟨_, rfl⟩
        obtain ⟨ke, hke⟩ : ∃ ke : Int, ke = ((W.kind bn).toNat : Int) := ⟨_, rfl⟩
        rw [← hc, ← hcn, ← hmz, ← hkz] at HOp
        have hcn2 : cn ≤ 233 := by rw [hcn, hc]; exact W.oBody_le s
        have HCN := hid (And.intro hc hcn)
        have HM := hid (fun (w' : World) (h' : w'.heap[l]? = some (.cells #[Ptr p, .int .i64 (fr : Int), .int .i64 (ct : Int), .int .i64 (ep : Int), .bool L.cl, gv, .int .i64 (u : Int), .int .i64 0, .slice none 0 0] 83 (0, 0))) => show Calls Tryz.prog 66 #[Ptr l, .int .i64 (k : Int)] w' (Tells (.int .u64 me) w') by rw [hme]; exact mark_any l ep k w' (cellOf h' 3) hL (by omega))
        have HKB := hid (fun (w' : World) => show Calls Tryz.prog 67 #[.int .i64 (bn : Int)] w' (Tells (.int .u8 ke) w') by rw [hke]; exact kindBehind_any bn w')
        by_cases hm : M.oMark s = W.mark ep k
        · obtain rfl : mz = me := by rw [hmz, hme, hm]
          by_cases hkd : M.oKind s = W.kind bn
          · obtain rfl : kz = ke := by rw [hkz, hke, hkd]
            obtain ⟨tn, htn⟩ : ∃ tn, tn = bn + cn := ⟨_, rfl⟩
            obtain ⟨nd, hnd⟩ : ∃ nd, nd = W.need (b ++ c) := ⟨_, rfl⟩
            have hnd2 : nd ≤ 4294967299 := by rw [hnd]; exact W.need_le _
            have htl : tn = (b ++ c).length := by rw [htn, List.length_append, HBN.out.1, hcn]
            have HTN := hid (And.intro htn (And.intro htl hnd))
            have HNN := hid (show ¬ (M.oErr s ≠ 0 ∨ M.oMark s ≠ W.mark ep k ∨ M.oKind s ≠ W.kind b.length) by rw [← HBN.out.1]; simp only [not_or]; exact ⟨fun q => q h0, fun q => q hm, fun q => q hkd⟩)
            have HWh := hid (fun (w4 : World) (va : Option Addr) (vc : Nat) (h1 : va = none → vc = 0) (h2 : tn ≤ vc) (h3 : At w4 va (b ++ c)) => show Calls Tryz.prog 76 #[.slice va tn vc] w4 (Adding (.int .u64 (nd : Int)) w4) by rw [hnd]; exact wholeOf_any va (b ++ c) tn vc htl.symm w4 h1 h2 h3)
            clear hmz hme hkz hke hm hkd h0 hc hcn htl hnd
            have htn3 : tn ≤ 940000 := by omega
            clear htn
            by_cases hA1 : tn < nd
            · by_cases hA2 : cn = 233
              · have hA2' : ((cn : Int) == 233) = true := by rw [hA2]; rfl
                have HA2c := hid hA2
                clear hA2
                go_wp2_with (first
                  | (go_at_call 75; refine HOp.out.mono ?_; rintro e w3 ⟨o3, rfl, H3⟩; have HB3 := hid (H3.out.2.at' HB2.out id); have HA3 := hid (HA2.out.trans H3.out.2); have HR3 := hid (row_touch HI.out.1.brow HA3.out (fun _ _ => id)); rw [← HBN.out.1] at HR3)
                  | (go_at_call 66; refine (HM.out w3 HB3.out).mono ?_; rintro e _ ⟨rfl, hw⟩; rw [hw]; clear hw)
                  | (go_at_call 67; refine (HKB.out w3).mono ?_; rintro e _ ⟨rfl, hw⟩; rw [hw]; clear hw)
                  | (at_builtin; refine append_t rfl _ _ rfl (.slice ba bn bc) bn (S b) rfl HR3.out ⟨w2.heap.size, o3, none⟩ c cn cn HCN.out.2.symm rfl H3.out.1 (by omega) ?_; intro v4 w4 G4; obtain ⟨va, vc, hv4, q1, q2, q3⟩ := own_cq G4.1; rw [← HTN.out.1] at hv4 q1; subst hv4; have HF4 := hid ((HI.out.1.adds HA3.out).piece (c := c) (by rw [← HBN.out.1, ← HCN.out.2]; exact G4)); have HQ4 := hid (And.intro q1 (And.intro q2 (show At w4 va (b ++ c) by rw [← S_append] at q3; exact q3.at))); clear q1 q2 q3 G4)
                  | (go_at_call 76; refine (HWh.out w4 va vc HQ4.out.2.1 HQ4.out.1 HQ4.out.2.2).mono ?_; rintro e w5 ⟨rfl, hA5⟩; have HF5 := hid (HF4.out.adds hA5); have HA5 := hid hA5; clear hA5))
                go_roundw
                case rel =>
                  have hb4 : (b ++ c).length < W.need (b ++ c) := by rw [← HTN.out.2.1, ← HTN.out.2.2]; exact hA1
                  refine ⟨k + 1, b ++ c, gs, u, gv, hs, by omega, by go_num, HF5.out, HI.out.2.1.next (by rw [← HCN.out.2]; exact HA2c.out) hb4, HI.out.2.2.1, ?_⟩
                  rw [HI.out.2.2.2, show ct - k = (ct - (k + 1)) + 1 by omega, find_on HC.out HNN.out (by rw [← HCN.out.1]; exact ⟨hb4, by rw [← HCN.out.2]; exact HA2c.out⟩), ← HCN.out.1]
                case measure => simp [intOf]; omega
              · have hA2' : ((cn : Int) == 233) = false := beq_eq_false_iff_ne.2 (by omega)
                have hB : (tn != nd) = true := by simp; omega
                have hB' : ((tn : Int) != (nd : Int)) = true := by simp; omega
                go_wp2_with (first
                  | (go_at_call 75; refine HOp.out.mono ?_; rintro e w3 ⟨o3, rfl, H3⟩; have HB3 := hid (H3.out.2.at' HB2.out id); have HA3 := hid (HA2.out.trans H3.out.2); have HR3 := hid (row_touch HI.out.1.brow HA3.out (fun _ _ => id)); rw [← HBN.out.1] at HR3)
                  | (go_at_call 66; refine (HM.out w3 HB3.out).mono ?_; rintro e _ ⟨rfl, hw⟩; rw [hw]; clear hw)
                  | (go_at_call 67; refine (HKB.out w3).mono ?_; rintro e _ ⟨rfl, hw⟩; rw [hw]; clear hw)
                  | (at_builtin; refine append_t rfl _ _ rfl (.slice ba bn bc) bn (S b) rfl HR3.out ⟨w2.heap.size, o3, none⟩ c cn cn HCN.out.2.symm rfl H3.out.1 (by omega) ?_; intro v4 w4 G4; obtain ⟨va, vc, hv4, q1, q2, q3⟩ := own_cq G4.1; rw [← HTN.out.1] at hv4 q1; subst hv4; have HF4 := hid ((HI.out.1.adds HA3.out).piece (c := c) (by rw [← HBN.out.1, ← HCN.out.2]; exact G4)); have HQ4 := hid (And.intro q1 (And.intro q2 (show At w4 va (b ++ c) by rw [← S_append] at q3; exact q3.at))); clear q1 q2 q3 G4)
                  | (go_at_call 76; refine (HWh.out w4 va vc HQ4.out.2.1 HQ4.out.1 HQ4.out.2.2).mono ?_; rintro e w5 ⟨rfl, hA5⟩; have HF5 := hid (HF4.out.adds hA5); have HA5 := hid hA5; clear hA5))
                (try rw [Exit.noGoto_ret])
                go_ret
                exact find_end (x := X) (u := u) HF5.out (Touch.refl _ _) (by rw [HI.out.2.2.2]; exact find_stop (u := u) HC.out hkk (.inr ⟨by rw [← HCN.out.1, ← HTN.out.2.1, ← HTN.out.2.2, ← HCN.out.2]; omega, .inl (by rw [← HCN.out.1, ← HTN.out.2.1, ← HTN.out.2.2]; omega)⟩))
            · by_cases hB1 : tn = nd
              · subst hB1
                obtain ⟨rn, hrn⟩ : ∃ rn, rn = (W.recs ((b ++ c).drop 4)).length := ⟨_, rfl⟩
                have h4 : 4 ≤ tn := by rw [HTN.out.2.2]; exact W.need_ge _
                have HRc := hid (fun (w5 : World) (sa : Option Addr) (sc : Nat) (h1 : sa = none → sc = 0) (h2 : At w5 sa ((b ++ c).drop 4)) => records_any sa ((b ++ c).drop 4) (tn - 4) sc (by rw [List.length_drop, ← HTN.out.2.1]) w5 (by omega) h1 h2)
                have HRN := hid hrn
                clear hrn
                go_upto_region 12 with (first
                  | (go_at_call 75; refine HOp.out.mono ?_; rintro e w3 ⟨o3, rfl, H3⟩; have HB3 := hid (H3.out.2.at' HB2.out id); have HA3 := hid (HA2.out.trans H3.out.2); have HR3 := hid (row_touch HI.out.1.brow HA3.out (fun _ _ => id)); rw [← HBN.out.1] at HR3)
                  | (go_at_call 66; refine (HM.out w3 HB3.out).mono ?_; rintro e _ ⟨rfl, hw⟩; rw [hw]; clear hw)
                  | (go_at_call 67; refine (HKB.out w3).mono ?_; rintro e _ ⟨rfl, hw⟩; rw [hw]; clear hw)
                  | (at_builtin; refine append_t rfl _ _ rfl (.slice ba bn bc) bn (S b) rfl HR3.out ⟨w2.heap.size, o3, none⟩ c cn cn HCN.out.2.symm rfl H3.out.1 (by omega) ?_; intro v4 w4 G4; obtain ⟨va, vc, hv4, q1, q2, q3⟩ := own_cq G4.1; rw [← HTN.out.1] at hv4 q1; subst hv4; have HF4 := hid ((HI.out.1.adds HA3.out).piece (c := c) (by rw [← HBN.out.1, ← HCN.out.2]; exact G4)); have HQ4 := hid (And.intro q1 (And.intro q2 (show At w4 va (b ++ c) by rw [← S_append] at q3; exact q3.at))); clear q1 q2 q3 G4)
                  | (go_at_call 76; refine (HWh.out w4 va vc HQ4.out.2.1 HQ4.out.1 HQ4.out.2.2).mono ?_; rintro e w5 ⟨rfl, hA5⟩; have HF5 := hid (HF4.out.adds hA5); have HA5 := hid hA5; clear hA5))
                by_cases hv : vc = 4
                · obtain rfl : tn = 4 := by have := HQ4.out.1; omega
                  subst hv
                  go_wp2_with (first
                    | (go_at_call 46; refine (records_any va [] 0 0 rfl w5 (by omega) (fun _ => rfl) (At.nil _ _)).mono ?_; rintro e w6 ⟨v6, hs6, rfl, H6⟩; obtain ⟨ra, rc, hv6, _⟩ := H6.out.1.pl; subst hv6; have HL6 := hid (show hs6.length = 0 by rw [← List.length_map (f := (·.bs)), H6.out.2.1]; rfl); rw [HL6.out]))
                  (try rw [Exit.noGoto_ret])
                  go_ret
                  exact find_end (x := X) (u := u) HF5.out H6.out.2.2 (by rw [HI.out.2.2.2]; exact find_stop (u := u) HC.out hkk (.inr ⟨by rw [← HCN.out.1, ← HTN.out.2.1, ← HTN.out.2.2]; omega, .inr (by rw [← HCN.out.1, List.drop_eq_nil_of_le (by rw [← HTN.out.2.1]; exact Nat.le_refl _)]; rfl)⟩))
                · obtain ⟨vb, vo, hva⟩ := HQ4.out.2.2.ad (by rw [← HTN.out.2.1]; omega)
                  subst hva
                  by_cases hr0 : rn = 0
                  · have hr0' : ((rn : Int) == 0) = true := by rw [hr0]; rfl
                    have HR0 := hid hr0
                    clear hr0
                    go_wp2_with (first
                      | (go_at_call 46; refine (HRc.out w5 (some ⟨vb, vo + 4, none⟩) (vc - 4) (fun e => by cases e) (HQ4.out.2.2.suf 4 |>.adds HA5.out)).mono ?_; rintro e w6 ⟨v6, hs6, rfl, H6⟩; obtain ⟨ra, rc, hv6, _⟩ := H6.out.1.pl; subst hv6; have HL6 := hid (show hs6.length = rn by rw [HRN.out, ← H6.out.2.1, List.length_map]); rw [HL6.out]))
                    (try rw [Exit.noGoto_ret])
                    go_ret
                    exact find_end (x := X) (u := u) HF5.out H6.out.2.2 (by rw [HI.out.2.2.2]; exact find_stop (u := u) HC.out hkk (.inr ⟨by rw [← HCN.out.1, ← HTN.out.2.1, ← HTN.out.2.2]; omega, .inr (by rw [← HCN.out.1]; exact List.eq_nil_of_length_eq_zero (by rw [← HRN.out]; exact HR0.out))⟩))
                  · have hr0' : ((rn : Int) == 0) = false := beq_eq_false_iff_ne.2 (by omega)
                    have HR0 := hid hr0
                    clear hr0
                    go_upto_region 14 with (first
                      | (go_at_call 46; refine (HRc.out w5 (some ⟨vb, vo + 4, none⟩) (vc - 4) (fun e => by cases e) (HQ4.out.2.2.suf 4 |>.adds HA5.out)).mono ?_; rintro e w6 ⟨v6, hs6, rfl, H6⟩; obtain ⟨ra, rc, hv6, _⟩ := H6.out.1.pl; subst hv6; have HL6 := hid (show hs6.length = rn by rw [HRN.out, ← H6.out.2.1, List.length_map]); rw [HL6.out]))
                    have HF6 := hid (HF5.out.adds H6.out.2.2)
                    have HB6 := hid (show w6.heap[l]? = some (.cells #[Ptr p, .int .i64 (fr : Int), .int .i64 (ct : Int), .int .i64 (ep : Int), .bool L.cl, gv, .int .i64 (u : Int), .int .i64 0, .slice none 0 0] 83 (0, 0)) by rw [HF6.out.box, HE.out.1, HE.out.2.1, HE.out.2.2, ← HI.out.2.2.1]; rfl)
                    have HB7 := hid (((Touch.refl (fun _ => False) w6).drew.alloc (.cells #[.slice (some ⟨vb, vo + 4, none⟩) (tn - 4) (vc - 4)] 56)).at' HB6.out id)
                    have HR7 := hid (row_touch HF6.out.rows ((Touch.refl (fun _ => False) w6).drew.alloc (.cells #[.slice (some ⟨vb, vo + 4, none⟩) (tn - 4) (vc - 4)] 56)) (fun _ _ => id))
                    have HC7 := hid (show (w6.drew.alloc (.cells #[.slice (some ⟨vb, vo + 4, none⟩) (tn - 4) (vc - 4)] 56)).cell? ⟨w6.heap.size, 0, none⟩ = some (.slice (some ⟨vb, vo + 4, none⟩) (tn - 4) (vc - 4)) from cellOf (heap_alloc_new w6.drew _) 0)
                    have HLN := hid (show hs.length ≤ 10000000 from find_len HF6.out.bytes HI.out.2.2.1 HI.out.2.1.le (by omega))
                    refine E_begin (S := fun w' : World => w'.heap[l]? = some (.cells #[Ptr p, .int .i64 (fr : Int), .int .i64 (ct : Int), .int .i64 (ep : Int), .bool L.cl, gv, .int .i64 (u : Int), .int .i64 0, .slice none 0 0] 83 (0, 0))) (X := 11) (by kernel_rfl) ?_
                    have hS : (fun w' : World => w'.heap[l]? = some (.cells #[Ptr p, .int .i64 (fr : Int), .int .i64 (ct : Int), .int .i64 (ep : Int), .bool L.cl, gv, .int .i64 (u : Int), .int .i64 0, .slice none 0 0] 83 (0, 0))) w6.drew := HB6.out
                    refine E_put (i := 0) 87 (v := Ptr l) rfl rfl (by kernel_rfl) (by kernel_rfl) (by kernel_rfl) (by kernel_rfl) (fun _ _ _ h => h) (Or.inl ⟨by rfl, fun w' hw' => ?_⟩) hS ?_
                    · go_simp
                    simp only [Act.put, List.setIfInBounds_toArray, List.set_cons_zero, List.set_cons_succ]
                    refine E_put (i := 1) 88 (v := Ptr l) rfl rfl (by kernel_rfl) (by kernel_rfl) (by kernel_rfl) (by kernel_rfl) (fun _ _ _ h => h) (Or.inl ⟨by rfl, fun w' hw' => ?_⟩) hS ?_
                    · go_simp
                    simp only [Act.put, List.setIfInBounds_toArray, List.set_cons_zero, List.set_cons_succ]
                    refine E_put (i := 2) 89 (v := Ptr l) rfl rfl (by kernel_rfl) (by kernel_rfl) (by kernel_rfl) (by kernel_rfl) (fun _ _ _ h => h) (Or.inl ⟨by rfl, fun w' hw' => ?_⟩) hS ?_
                    · go_simp
                    simp only [Act.put, List.setIfInBounds_toArray, List.set_cons_zero, List.set_cons_succ]
                    refine E_put (i := 3) 90 (v := .pointer (some ⟨l, 5, none⟩)) rfl rfl (by kernel_rfl) (by kernel_rfl) (by kernel_rfl) (by kernel_rfl) (fun _ _ _ h => h) (Or.inl ⟨by rfl, fun w' hw' => ?_⟩) hS ?_
                    · go_simp
                    simp only [Act.put, List.setIfInBounds_toArray, List.set_cons_zero, List.set_cons_succ]
                    refine E_put (i := 4) 91 (v := gv) rfl rfl (by kernel_rfl) (by kernel_rfl) (by kernel_rfl) (by kernel_rfl) (fun _ _ _ h => h) (Or.inl ⟨by rfl, fun w' hw' => ?_⟩) hS ?_
                    · have c : w'.cell? ⟨l, 5, none⟩ = some (gv) := cellOf (hw') 5; go_simp
                    simp only [Act.put, List.setIfInBounds_toArray, List.set_cons_zero, List.set_cons_succ]
                    refine E_put (i := 5) 92 (v := .slice (some ⟨vb, vo, none⟩) tn vc) rfl rfl (by kernel_rfl) (by kernel_rfl) (by kernel_rfl) (by kernel_rfl) (fun _ _ _ h => h) (Or.inl ⟨by rfl, fun w' hw' => ?_⟩) hS ?_
                    · go_simp
                    simp only [Act.put, List.setIfInBounds_toArray, List.set_cons_zero, List.set_cons_succ]
                    refine E_put (i := 6) 93 (v := .slice (some ⟨vb, vo + 4, none⟩) (tn - 4) (vc - 4)) rfl rfl (by kernel_rfl) (by kernel_rfl) (by kernel_rfl) (by kernel_rfl) (fun _ _ _ h => h) (Or.inl ⟨by rfl, fun w' hw' => ?_⟩) hS ?_
                    · go_simp; intro q; exact absurd q (by omega)
                    simp only [Act.put, List.setIfInBounds_toArray, List.set_cons_zero, List.set_cons_succ]
                    refine E_do (i := 7) (some 94) (by kernel_rfl) rfl rfl rfl (fun K hK => ?_)
                    go_simp
                    refine hK (.slice (some ⟨w6.heap.size, 0, none⟩) 1 1) _ (fun _ => HB7.out) ?_
                    clear hK K
                    simp only [Act.put, List.setIfInBounds_toArray, List.set_cons_zero, List.set_cons_succ]
                    refine E_do (i := 8) (some 95) (by kernel_rfl) rfl rfl rfl (fun K hK => ?_)
                    refine wp_append_b1 (.tmp 91) (.tmp 94) rfl gv hs.length (hs.map PV) rfl HR7.out w6.heap.size (.slice (some ⟨vb, vo + 4, none⟩) (tn - 4) (vc - 4)) rfl HC7.out rfl HLN.out ?_
                    intro v8 w8 G8
                    obtain ⟨va8, vc8, hv8, _, _, _⟩ := own_cq G8.1
                    subst hv8
                    have HB8 := hid (G8.touch.at' HB7.out HF6.out.ne.1)
                    have HG8 := hid G8
                    clear G8
                    refine hK (.slice va8 (hs.length + 1) vc8) _ (fun _ => HB8.out) ?_
                    clear hK K
                    simp only [Act.put, List.setIfInBounds_toArray, List.set_cons_zero, List.set_cons_succ]
                    refine E_do (i := 9) (some 96) (by kernel_rfl) rfl rfl rfl (fun K hK => ?_)
                    go_simp
                    refine hK (.pointer (some ⟨l, 0, none⟩)) _ (fun _ => HB8.out) ?_
                    clear hK K
                    simp only [Act.put, List.setIfInBounds_toArray, List.set_cons_zero, List.set_cons_succ]
                    refine E_do (i := 10) (some 97) (by kernel_rfl) rfl rfl rfl (fun K hK => ?_)
                    go_simp
                    refine hK (.pointer (some ⟨l, 5, none⟩)) _ (fun _ => HB8.out) ?_
                    clear hK K
                    simp only [Act.put, List.setIfInBounds_toArray, List.set_cons_zero, List.set_cons_succ]
                    refine E_do (i := 11) none (by kernel_rfl) rfl rfl rfl (fun K hK => ?_)
                    have c5 : w8.cell? ⟨l, 5, none⟩ = some gv := cellOf HB8.out 5
                    have f5 : w8.frozen? ⟨l, 5, none⟩ = false := frozen_of_row w8 l 5 _ 83 HB8.out
                    go_simp
                    refine hK (undef) _ (fun h => absurd rfl h) ?_
                    clear hK K
                    simp only [Act.put]
                    refine E_done (by kernel_rfl) ?_ _
                    obtain ⟨w9, hw9⟩ : ∃ w9, w9 = w8.setCell ⟨l, 5, none⟩ (.slice va8 (hs.length + 1) vc8) := ⟨_, rfl⟩
                    rw [← hw9]
                    have HW9 := hid hw9
                    have HB9 := hid (show w9.heap[l]? = some (.cells #[Ptr p, .int .i64 (fr : Int), .int .i64 (ct : Int), .int .i64 (ep : Int), .bool L.cl, .slice va8 (hs.length + 1) vc8, .int .i64 (u : Int), .int .i64 0, .slice none 0 0] 83 (0, 0)) by rw [hw9, setCell_eq_setRow w8 l 5 _ 83 _ _ HB8.out, setRow_heap w8 l _ _ 83 _ HB8.out]; rfl)
                    have c69 : w9.cell? ⟨l, 6, none⟩ = some (.int .i64 (u : Int)) := cellOf HB9.out 6
                    have f69 : w9.frozen? ⟨l, 6, none⟩ = false := frozen_of_row w9 l 6 _ 83 HB9.out
                    clear hw9
                    go_wp2_with fail
                    go_roundw
                    case rel => exact find_grp HF6.out HI.out.2.1 HI.out.2.2.1 HI.out.2.2.2 HG8.out HB8.out HW9.out HTN.out.2.1 HTN.out.2.2 HCN.out.1 HC.out HNN.out (HQ4.out.2.2.adds (HA5.out.trans H6.out.2.2)) HRN.out HR0.out HE.out hlt (by go_num)
                    case measure => simp [intOf]; omega
              · have hB : (tn != nd) = true := by simp; omega
                have hB' : ((tn : Int) != (nd : Int)) = true := by simp; omega
                go_wp2_with (first
                  | (go_at_call 75; refine HOp.out.mono ?_; rintro e w3 ⟨o3, rfl, H3⟩; have HB3 := hid (H3.out.2.at' HB2.out id); have HA3 := hid (HA2.out.trans H3.out.2); have HR3 := hid (row_touch HI.out.1.brow HA3.out (fun _ _ => id)); rw [← HBN.out.1] at HR3)
                  | (go_at_call 66; refine (HM.out w3 HB3.out).mono ?_; rintro e _ ⟨rfl, hw⟩; rw [hw]; clear hw)
                  | (go_at_call 67; refine (HKB.out w3).mono ?_; rintro e _ ⟨rfl, hw⟩; rw [hw]; clear hw)
                  | (at_builtin; refine append_t rfl _ _ rfl (.slice ba bn bc) bn (S b) rfl HR3.out ⟨w2.heap.size, o3, none⟩ c cn cn HCN.out.2.symm rfl H3.out.1 (by omega) ?_; intro v4 w4 G4; obtain ⟨va, vc, hv4, q1, q2, q3⟩ := own_cq G4.1; rw [← HTN.out.1] at hv4 q1; subst hv4; have HF4 := hid ((HI.out.1.adds HA3.out).piece (c := c) (by rw [← HBN.out.1, ← HCN.out.2]; exact G4)); have HQ4 := hid (And.intro q1 (And.intro q2 (show At w4 va (b ++ c) by rw [← S_append] at q3; exact q3.at))); clear q1 q2 q3 G4)
                  | (go_at_call 76; refine (HWh.out w4 va vc HQ4.out.2.1 HQ4.out.1 HQ4.out.2.2).mono ?_; rintro e w5 ⟨rfl, hA5⟩; have HF5 := hid (HF4.out.adds hA5); have HA5 := hid hA5; clear hA5))
                (try rw [Exit.noGoto_ret])
                go_ret
                exact find_end (x := X) (u := u) HF5.out (Touch.refl _ _) (by rw [HI.out.2.2.2]; exact find_stop (u := u) HC.out hkk (.inr ⟨by rw [← HCN.out.1, ← HTN.out.2.1, ← HTN.out.2.2, ← HCN.out.2]; omega, .inl (by rw [← HCN.out.1, ← HTN.out.2.1, ← HTN.out.2.2]; omega)⟩))
          · have hq : (kz != ke) = true := by simp only [bne_iff_ne, ne_eq]; rw [hkz, hke]; exact fun e => hkd (UInt8.toNat_inj.1 (by omega))
            have HST := hid (find_stop (ep := ep) (gs := gs) (u := u) (n := ct - k) (b := b) HC.out hkk (.inl (.inr (.inr (by rw [← HBN.out.1]; exact hkd)))))
            clear hkz hke hm hkd h0 hc hcn hmz hme
            go_wp2_with (first
              | (go_at_call 75; refine HOp.out.mono ?_; rintro e w3 ⟨o3, rfl, H3⟩; have HB3 := hid (H3.out.2.at' HB2.out id); have HA3 := hid (HA2.out.trans H3.out.2); have HR3 := hid (row_touch HI.out.1.brow HA3.out (fun _ _ => id)); rw [← HBN.out.1] at HR3)
              | (go_at_call 66; refine (HM.out w3 HB3.out).mono ?_; rintro e _ ⟨rfl, hw⟩; rw [hw]; clear hw)
              | (go_at_call 67; refine (HKB.out w3).mono ?_; rintro e _ ⟨rfl, hw⟩; rw [hw]; clear hw))
            (try rw [Exit.noGoto_ret])
            go_ret
            exact find_end (x := X) (u := u) HI.out.1 HA3.out (by rw [HI.out.2.2.2]; exact HST.out)
        · have hq : (mz != me) = true := by simp only [bne_iff_ne, ne_eq]; rw [hmz, hme]; exact fun e => hm (by omega)
          have HST := hid (find_stop (ep := ep) (gs := gs) (u := u) (n := ct - k) (b := b) HC.out hkk (.inl (.inr (.inl hm))))
          clear hkz hke hm h0 hc hcn hmz hme
          go_wp2_with (first
            | (go_at_call 75; refine HOp.out.mono ?_; rintro e w3 ⟨o3, rfl, H3⟩; have HB3 := hid (H3.out.2.at' HB2.out id); have HA3 := hid (HA2.out.trans H3.out.2); have HR3 := hid (row_touch HI.out.1.brow HA3.out (fun _ _ => id)); rw [← HBN.out.1] at HR3)
            | (go_at_call 66; refine (HM.out w3 HB3.out).mono ?_; rintro e _ ⟨rfl, hw⟩; rw [hw]; clear hw))
          (try rw [Exit.noGoto_ret])
          go_ret
          exact find_end (x := X) (u := u) HI.out.1 HA3.out (by rw [HI.out.2.2.2]; exact HST.out)
      · obtain ⟨z, hz⟩ : ∃ z, z = M.oErr s := ⟨_, rfl⟩
        have HOp := hid (sopen_bad (some ⟨sg, 0, none⟩) s scap w2 HQ2.out.2.1 (fun e => by cases e) HQ2.out.1 (HTr.out.adds HA2.out) z hz.symm (by rw [hz]; exact h0))
        have hz1 : ((z : Int) != 0) = true := by simp only [bne_iff_ne, ne_eq]; omega
        have HST := hid (find_stop (ep := ep) (gs := gs) (u := u) (n := ct - k) (b := b) HC.out hkk (.inl (.inl h0)))
        clear hz h0
        go_wp2_with (first
          | (go_at_call 75; refine HOp.out.mono ?_; rintro e w3 ⟨rfl, hA3⟩; have HA3 := hid (HA2.out.trans hA3); clear hA3))
        (try rw [Exit.noGoto_ret])
        go_ret
        exact find_end (x := X) (u := u) HI.out.1 HA3.out (by rw [HI.out.2.2.2]; exact HST.out)
    · obtain rfl : k = ct := by omega
      have HST := hid (show X = (gs, u) by rw [HI.out.2.2.2, Nat.sub_self, W.find])
      go_wp2_with fail
      (try rw [Exit.noGoto_ret])
      go_ret
      exact find_end (x := X) (u := u) HI.out.1 (Touch.refl _ _) HST.out
end Go.Proofs.YtllkplanjfnnmaaGreatDoor

/- Open; what a Commit leaves, in all cases; Begin, in all cases. -/
namespace Go.Proofs.YtllkplanjfnnmaaGreatDoor
open Go.RowKit

set_option maxRecDepth 100000 in
theorem build_log5 (p : Nat) (fr ct e : Int) (w : World) : (Instr.build 83 #[(0, Ptr p), (1, .int .i64 fr), (2, .int .i64 ct), (3, .int .i64 e), (4, .bool true)]).run Tryz.prog w = .ok (.agg #[Ptr p, .int .i64 fr, .int .i64 ct, .int .i64 e, .bool true, .slice none 0 0, .int .i64 0, .int .i64 0, .slice none 0 0]) w := by kernel_rfl
set_option maxRecDepth 100000 in
theorem open_un (x : Value) (fr ct ep : Int) (w : World) (hu : Unmade w x) : Calls Tryz.prog 20 #[x, .int .i64 fr, .int .i64 ct, .int .i64 ep] w (Tells (.tuple #[.pointer none, .int .i64 1]) w) := by
  have H := hid (size_un x w hu)
  clear hu
  go_enter Tryz.func20, Tryz.ntmps20
  go_wp2_with (first | (go_at_call 47; refine H.out.mono ?_; rintro e _ ⟨rfl, hw⟩; rw [hw]; clear hw))
  go_ret2
  exact ⟨rfl, rfl⟩
/-- What Open tells. -/
def PLog (w : World) (p : Nat) (L : LS) (e : Ending) (w' : World) : Prop := ∃ l, e = .returned (.tuple #[Ptr l, .int .i64 0]) ∧ Hid (IsLog w' (fun k => w.heap.size ≤ k ∧ k < w'.heap.size) l p L ∧ Adds w w')
set_option maxRecDepth 100000 in
set_option maxHeartbeats 2000000 in
theorem open_ok {w : World} {O : Nat → Prop} {p : Nat} {D : dSt} {n0 : Nat} (hD : IsDO w O p D) (hk : DOk D n0) (hn0 : n0 ≤ 900) (hT : Tab w) (hO : ∀ k, O k → k < w.heap.size) (fr ct ep : Nat) (h1 : 1 ≤ ct) (h2 : ct ≤ 4000) (h3 : fr + ct ≤ D.size) (h4 : 1 ≤ ep) (h5 : ep ≤ 1000000000) (h6 : D.size ≤ 4096) (hon : D.left ≠ 0) :
    Calls Tryz.prog 20 #[Ptr p, .int .i64 (fr : Int), .int .i64 (ct : Int), .int .i64 (ep : Int)] w (PLog w p ⟨fr, ct, ep, true, (W.find ep (secOf D fr) ct 0 [] [] 0).1, []⟩) := by
  have HF := hid (find_any (w := w.alloc (.cells #[Ptr p, .int .i64 (fr : Int), .int .i64 (ct : Int), .int .i64 (ep : Int), .bool true, .slice none 0 0, .int .i64 0, .int .i64 0, .slice none 0 0] 83)) (l := w.heap.size) (L := ⟨fr, ct, ep, true, [], []⟩) (heap_alloc_new w _) h5 h2 (by show fr ≤ 4096; omega) (hD.adds ((Touch.refl _ w).alloc _)) hk hn0 (fun c => Nat.lt_irrefl _ (hO _ c)) (hT.adds ((Touch.refl _ w).alloc _)) h3 hon)
  obtain ⟨hb, wv, hd, _, _, _⟩ := hD
  obtain ⟨sz, hsz⟩ : ∃ sz, sz = D.size := ⟨_, rfl⟩
  have HSz := hid (fun w' (h' : w' = w) => show Calls Tryz.prog 47 #[Ptr p] w' (fun e w'' => e = .returned (.int .i64 sz) ∧ w'' = w) by subst h'; rw [hsz]; exact size_any p D.size w' (cellOf hd.box 0) hk.size)
  obtain ⟨frz, hfrz⟩ : ∃ frz : Int, frz = fr := ⟨_, rfl⟩
  obtain ⟨ctz, hctz⟩ : ∃ ctz : Int, ctz = ct := ⟨_, rfl⟩
  obtain ⟨epz, hepz⟩ : ∃ epz : Int, epz = ep := ⟨_, rfl⟩
  have hs0 := hk.size
  rw [← hsz] at h3 h6 hs0
  have d0 : (sz == 0) = false := beq_eq_false_iff_ne.2 (by omega)
  have d1 : decide (frz < 0) = false := by simp; omega
  have d2 : decide (ctz < 1) = false := by simp; omega
  have d3 : decide (10000 < ctz) = false := by simp; omega
  have d4 : decide (sz - ctz < frz) = false := by simp; omega
  have d5 : decide (epz < 1) = false := by simp; omega
  have d6 : decide (1000000000 < epz) = false := by simp; omega
  have hc1 : 0 ≤ ctz ∧ ctz ≤ 4000 := by omega
  have hbl := fun w => build_log5 p frz ctz epz w
  rw [← hfrz, ← hctz, ← hepz] at HF
  rw [← hfrz, ← hctz, ← hepz]
  clear hfrz hctz hepz hd hsz h1 h2 h3 h4 h5 hon hT hO hk
  go_enter Tryz.func20, Tryz.ntmps20
  go_wp2_with (first
    | (go_at_call 47; refine (HSz.out _ rfl).mono ?_; rintro e _ ⟨rfl, hw⟩; rw [hw]; clear hw)
    | (go_at_call 48; refine HF.out.mono ?_; rintro e w2 ⟨rfl, hL2, hT2⟩; have H2 := hid (And.intro hL2 hT2); clear hL2 hT2))
  go_ret2
  refine ⟨w.heap.size, rfl, H2.out.1.mono (fun k q => ?_), ?_⟩
  · have := H2.out.2.size
    rcases q with q | q
    · simp at this; omega
    · simp at this q; omega
  · exact ((Touch.refl _ w).alloc _).then H2.out.2 (fun k hk c => by omega)

/-! ### Commit -/
def comR (L : LS) (D : dSt) : Int × dSt := goW (fW L.fr L.ep (W.usedOf L.G) (W.gbytes L.R)) (W.secs (W.gbytes L.R).length) 0 D
def comE (L : LS) (D : dSt) : Int := if L.cl = true then 42 else if L.R = [] then 0 else (comR L D).1
def comD (L : LS) (D : dSt) : dSt := if L.cl = true then D else if L.R = [] then D else (comR L D).2
def comL (L : LS) (D : dSt) : LS := if L.cl = true then L else if L.R = [] then L else if (comR L D).1 = 0 then { L with G := L.G ++ [W.gbytes L.R], R := [] } else { L with cl := true, R := [] }
set_option maxRecDepth 100000 in
theorem commit_any {w : World} {OL OD : Nat → Prop} {l p : Nat} {L : LS} {D : dSt} {n0 : Nat} (h : IsLog w OL l p L) (hD : IsDO w OD p D) (hap : ∀ k, OL k → ¬ OD k) (hlt : ∀ k, OL k ∨ OD k → k < w.heap.size) (hk : L.Ok) (hdk : DOk D n0)
    (hn0 : n0 + L.ct ≤ 800) (hsz : L.fr + L.ct ≤ D.size) (hT : Tab w) (h0 : ¬ OD 0) : Calls Tryz.prog 16 #[Ptr l] w (PCom w OL OD l p (comL L D) (comD L D) (comE L D)) := by
  have hL := h
  obtain ⟨gv, tv, hs, h⟩ := h
  have c0 : w.cell? ⟨l, 0, none⟩ = some (Ptr p) := cellOf h.box 0
  have c4 : w.cell? ⟨l, 4, none⟩ = some (.bool L.cl) := cellOf h.box 4
  have same : ∀ z, PCom w OL OD l p L D z (.returned (.int .i64 z)) w := fun z => ⟨rfl, OL, OD, hL, hD, hap, Touch.refl _ _, fun k q => .inl q⟩
  by_cases hc : L.cl = true
  · rw [comE, comD, comL, if_pos hc, if_pos hc, if_pos hc]
    rw [hc] at c4
    refine (commit_closed l p w c0 c4).mono ?_
    rintro e w' ⟨rfl, hw⟩
    rw [hw]
    exact same 42
  · have hc' : L.cl = false := by simpa using hc
    rw [comE, comD, comL, if_neg hc, if_neg hc, if_neg hc]
    rw [hc'] at c4
    by_cases hR : L.R = []
    · rw [if_pos hR, if_pos hR, if_pos hR]
      refine (commit_none l p w c0 c4 (by rw [cellOf h.box 7, hR]; rfl)).mono ?_
      rintro e w' ⟨rfl, hw⟩
      rw [hw]
      exact same 0
    · rw [if_neg hR, if_neg hR, if_neg hR]
      have hw := hk.wt hR
      have hn1 : n0 + W.secs (W.gbytes L.R).length ≤ 800 := by omega
      cases hr : comR L D with
      | mk z D' =>
        by_cases hz : z = 0
        · subst hz
          rw [if_pos rfl]
          exact commit_up h hD hap hlt hk hdk hn1 hc' hR hsz hT h0 D' hr
        · rw [if_neg hz]
          exact commit_down h hD hap hlt hk hdk hn1 hc' hR hsz hT h0 D' z hz hr
set_option maxRecDepth 100000 in
theorem LS.Ok.com {L : LS} (h : L.Ok) (D : dSt) : (comL L D).Ok := by
  unfold comL
  split
  · exact h
  · split
    · exact h
    · rename_i hR
      have hw := h.wt hR
      have hu := h.us
      split
      · refine ⟨h.fr, h.ct, h.ep, ?_, fun c => absurd rfl c, fun g hg => ?_⟩
        · show W.usedOf (L.G ++ [W.gbytes L.R]) ≤ L.ct
          rw [W.usedOf_app]; simp only [W.usedOf]; omega
        · rcases List.mem_append.1 hg with hg | hg
          · exact h.good g hg
          · obtain rfl := List.mem_singleton.1 hg
            have hl := secs_len hw
            have hc := h.ct
            refine ⟨by omega, ?_⟩
            rw [W.recs_put L.R (by omega)]
            exact hR
      · exact ⟨h.fr, h.ct, h.ep, hu, fun c => absurd rfl c, h.good⟩
/-! ### Begin -/
def begE (L : LS) (e : Int) : Int := if e ≤ L.ep ∨ 1000000000 < e then 2 else 0
def begL (L : LS) (e : Int) : LS := if e ≤ L.ep ∨ 1000000000 < e then L else { L with ep := e.toNat, cl := false, G := [], R := [] }
set_option maxRecDepth 100000 in
theorem begin_any {w : World} {O : Nat → Prop} {l p : Nat} {L : LS} (h : IsLog w O l p L) (e : Int) : Calls Tryz.prog 25 #[Ptr l, .int .i64 e] w (PApp w O l p (begL L e) (begE L e)) := by
  have hL := h
  obtain ⟨gv, tv, hs, h⟩ := h
  have c0 : w.cell? ⟨l, 0, none⟩ = some (Ptr p) := cellOf h.box 0
  have c3 : w.cell? ⟨l, 3, none⟩ = some (.int .i64 (L.ep : Int)) := cellOf h.box 3
  by_cases hb : e ≤ L.ep ∨ 1000000000 < e
  · rw [begL, begE, if_pos hb, if_pos hb]
    refine (begin_bad l p (L.ep : Int) e w c0 c3 hb).mono ?_
    rintro r w' ⟨rfl, hw⟩
    rw [hw]
    exact hL.same (Touch.refl _ _)
  · rw [begL, begE, if_neg hb, if_neg hb]
    refine (begin_ok l p (L.fr : Int) (L.ct : Int) _ _ _ _ _ (L.ep : Int) e w h.box (by omega) (by omega)).mono ?_
    rintro r w' ⟨rfl, hb', hT⟩
    refine ⟨rfl, O, ⟨.slice none 0 0, .slice none 0 0, [], ⟨?_, World.ownsRow_nil _ _ _ _, fun _ hx => (by cases hx), rfl, World.ownsRow_nil _ _ _ _, h.ol, fun _ hk => (by cases hk), fun _ hk => (by cases hk)⟩⟩, hT.mono (fun k _ c => by subst c; exact h.ol), fun _ c => .inl c⟩
    rw [hb']
    simp only [LBox, W.usedOf]
    rw [show ((e.toNat : Nat) : Int) = e by omega]
    rfl
set_option maxRecDepth 100000 in
theorem LS.Ok.beg {L : LS} (h : L.Ok) (e : Int) : (begL L e).Ok := by
  unfold begL
  split
  · exact h
  · refine ⟨h.fr, h.ct, ?_, Nat.zero_le _, fun c => absurd rfl c, fun g hg => (by cases hg)⟩
    show e.toNat ≤ 1000000000
    omega
end Go.Proofs.YtllkplanjfnnmaaGreatDoor
