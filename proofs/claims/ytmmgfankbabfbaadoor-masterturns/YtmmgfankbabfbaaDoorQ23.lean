/- Texts put together: WFind, UStand. -/
import Derived.Test.YtmmgfankbabfbaaDoorQ22
import Derived.WalkMore
import Derived.Deep.LoopGhost
import Derived.Test.YtmmgfankbabfbaaDoorQ17
/- The groups that stand are found: the walk. -/
namespace Go.Proofs.YtmmgfankbabfbaaDoor
open Go.RowKit

/-- A sector of the disk, read. -/
def PSec (w : World) (bs : List UInt8) (e : Ending) (w' : World) : Prop := ∃ g cap, e = .returned (.tuple #[.slice (some ⟨g, 0, none⟩) 256 cap, .int .i64 0]) ∧ Hid (At w' (some ⟨g, 0, none⟩) bs ∧ bs.length = 256 ∧ Adds w w')
set_option maxRecDepth 100000 in
theorem dread_any {w : World} {O : Nat → Prop} {p : Nat} {D : dSt} {n : Nat} (h : IsDO w O p D) (hk : DOk D n) (hn : n ≤ 900) (hon : D.left ≠ 0) (i : Int) (hi : 0 ≤ i ∧ i < D.size) : Calls Tryd.prog 31 #[Ptr p, .int .i64 i] w (PSec w (hasOf D.H D.W i)) := by
  obtain ⟨hb, wv, hd, h1, h2, h3⟩ := h
  have := hk.waits
  refine (read_ok 0 p hb wv D i w hd (by omega) hi hon).mono ?_
  intro e w' hr
  obtain ⟨g, cap, he, hc, hg, hlt, hA⟩ := hr.reads
  exact ⟨g, cap, he, fun j c hj => ⟨g, 0, rfl, by rw [Nat.zero_add]; exact hc j c hj⟩, hasOf_len i hd.good D.W hd.goodW, hA⟩
set_option maxRecDepth 100000 in
/-- An opened piece. -/
theorem sopen_piece {w : World} (g cap : Nat) (s : List UInt8) (hl : s.length = 256) (hA : At w (some ⟨g, 0, none⟩) s) (hT : Tab w) (h0 : M.oErr s = 0) :
    Calls Tryd.prog 54 #[.slice (some ⟨g, 0, none⟩) 256 cap] w fun e w' => ∃ o, e = .returned (.tuple #[.int .u64 (M.oMark s : Int), .int .u8 ((M.oKind s).toNat : Int), .slice (some ⟨w.heap.size, o, none⟩) (M.oBody s).length (M.oBody s).length, .int .i64 0]) ∧ Hid (At w' (some ⟨w.heap.size, o, none⟩) (M.oBody s) ∧ Adds w w') := by
  have hn := (M.oErr_good h0).2
  have hb : M.oBody s = (s.drop 10).take (M.lenOf s) := by rw [M.oBody, if_pos h0]
  have hlb : (M.oBody s).length = M.lenOf s := by rw [hb, List.length_take, List.length_drop]; omega
  refine (sopen_good (some ⟨g, 0, none⟩) s cap w hl (fun e => by cases e) hA hT h0 hn _ rfl).mono ?_
  rintro e w' ⟨rfl, hS, hA'⟩
  refine ⟨_, by rw [M.oMark, if_pos h0, M.oKind, if_pos h0, hlb], ?_, hA'⟩
  by_cases hz : M.lenOf s = 0
  · rw [show M.oBody s = [] from List.eq_nil_of_length_eq_zero (by omega)]
    exact At.nil _ _
  · rw [if_neg hz, hb]
    exact hS.part 10 (M.lenOf s)
set_option maxRecDepth 100000 in
theorem find_none {sa va : Option Addr} {vc : Nat} (h : sa = sufAt va vc 4) (hv : va = none → vc = 0) (e : sa = none) : vc - 4 = 0 := by
  unfold sufAt at h
  split at h
  · omega
  · rw [e] at h
    cases va with
    | none => have := hv rfl; omega
    | some a => cases h
set_option maxRecDepth 100000 in
theorem find_len {hs : List Part} {gs : List (List UInt8)} {u k : Nat} (h : hs.map (·.bs) = gs) (hu : W.usedOf gs = u) (hk : u ≤ k) (hk2 : k ≤ 10000) : hs.length ≤ 10000000 := by
  have h3 : ∀ G : List (List UInt8), G.length ≤ W.usedOf G := fun G => by
    induction G with
    | nil => exact Nat.le_refl _
    | cons g G ih => rw [W.usedOf, List.length_cons]; have := W.secs_pos g.length; omega
  have h4 := h3 gs
  have h5 : hs.length = gs.length := by rw [← h, List.length_map]
  omega
set_option maxRecDepth 100000 in
theorem find_stop {ep k n u : Nat} {sec : Nat → List UInt8} {s b : List UInt8} {gs : List (List UInt8)} (hs : s = sec k) (hn : 0 < n) (h : (M.oErr s ≠ 0 ∨ M.oMark s ≠ W.mark ep k ∨ M.oKind s ≠ W.kind b.length) ∨ (¬ ((b ++ M.oBody s).length < W.need (b ++ M.oBody s) ∧ (M.oBody s).length = 233) ∧ ((b ++ M.oBody s).length ≠ W.need (b ++ M.oBody s) ∨ W.recs ((b ++ M.oBody s).drop 4) = []))) : W.find ep sec n k b gs u = (gs, u) := by
  obtain ⟨m, rfl⟩ : ∃ m, n = m + 1 := ⟨n - 1, by omega⟩
  rw [W.find, ← hs]
  rcases h with h | ⟨h1, h2⟩
  · rw [if_pos h]
  · by_cases hh : M.oErr s ≠ 0 ∨ M.oMark s ≠ W.mark ep k ∨ M.oKind s ≠ W.kind b.length
    · rw [if_pos hh]
    · rw [if_neg hh, if_neg h1, if_pos h2]
set_option maxRecDepth 100000 in
theorem find_on {ep k n u : Nat} {sec : Nat → List UInt8} {s b : List UInt8} {gs : List (List UInt8)} (hs : s = sec k) (h : ¬ (M.oErr s ≠ 0 ∨ M.oMark s ≠ W.mark ep k ∨ M.oKind s ≠ W.kind b.length)) (h1 : (b ++ M.oBody s).length < W.need (b ++ M.oBody s) ∧ (M.oBody s).length = 233) : W.find ep sec (n + 1) k b gs u = W.find ep sec n (k + 1) (b ++ M.oBody s) gs u := by
  rw [W.find, ← hs, if_neg h, if_pos h1]
set_option maxRecDepth 100000 in
theorem find_in {ep k n u : Nat} {sec : Nat → List UInt8} {s b : List UInt8} {gs : List (List UInt8)} (hs : s = sec k) (h : ¬ (M.oErr s ≠ 0 ∨ M.oMark s ≠ W.mark ep k ∨ M.oKind s ≠ W.kind b.length)) (h1 : (b ++ M.oBody s).length = W.need (b ++ M.oBody s)) (h2 : W.recs ((b ++ M.oBody s).drop 4) ≠ []) : W.find ep sec (n + 1) k b gs u = W.find ep sec n (k + 1) [] (gs ++ [(b ++ M.oBody s).drop 4]) (k + 1) := by
  rw [W.find, ← hs, if_neg h, if_neg (by rw [h1]; omega), if_neg (by simp only [not_or]; exact ⟨fun c => c h1, h2⟩)]
end Go.Proofs.YtmmgfankbabfbaaDoor

/- What stands in a sector; put. -/
namespace Go.Proofs.YtmmgfankbabfbaaDoor
open Go.RowKit

/-- Numbers in a row of one's own, in new memory. -/
structure FreshN (B : Nat) (w : World) (v : Value) (n : Nat) (ns : List Nat) : Prop where
  rows : w.ownsRow 0 67 1 v n (N8 ns)
  own : ∀ k, v.ownBlock = some k → B ≤ k
theorem FreshN.nil (B : Nat) (w : World) : FreshN B w (.slice none 0 0) 0 [] := ⟨World.ownsRow_nil _ _ _ _, fun _ hk => (by cases hk)⟩
theorem FreshN.touch {B n : Nat} {w w' : World} {T : Nat → Prop} {v : Value} {ns : List Nat} (h : FreshN B w v n ns) (hT : Touch T w w') (hn : ∀ k, B ≤ k → ¬ T k) : FreshN B w' v n ns :=
  ⟨row_touch h.rows hT (fun k hk => hn k (h.own k hk)), h.own⟩
set_option maxRecDepth 100000 in
theorem FreshN.part {B n : Nat} {w : World} {v : Value} {ns : List Nat} (h : FreshN B w v n ns) : ∃ a cap, v = .slice a n cap ∧ NQ w (fun k => B ≤ k) ⟨a, cap, ns⟩ := by
  obtain ⟨a, cap, e, _, hn, hq⟩ := own_cq h.rows
  exact ⟨a, cap, e, hq.mono (fun k _ c => h.own k c), hn⟩
/-- What stands. -/
def PStand (w : World) (s : U.Sl) (e : Ending) (w' : World) : Prop := ∃ a cap, e = .returned (.agg #[.int .i64 (s.ep : Int), .slice a s.fs.length cap]) ∧ Hid (NQ w' (fun k => w.heap.size ≤ k) ⟨a, cap, s.fs⟩ ∧ Adds w w')
set_option maxRecDepth 100000 in
theorem build_slot0 (w : World) : (Instr.build 53 #[]).run Tryd.prog w = .ok (.agg #[.int .i64 0, .slice none 0 0]) w := by kernel_rfl
set_option maxRecDepth 100000 in
theorem build_slot2 (z : Int) (a : Option Addr) (n cap : Nat) (w : World) : (Instr.build 53 #[(0, .int .i64 z), (1, .slice a n cap)]).run Tryd.prog w = .ok (.agg #[.int .i64 z, .slice a n cap]) w := by kernel_rfl
set_option maxRecDepth 100000 in
theorem infoSlot : (Tryd.prog.info? 53).map (·.size) = some 2 := by kernel_rfl
set_option maxRecDepth 100000 in
theorem zero_slot (w : World) : (zeroValue 53).run Tryd.prog w = .ok (.agg #[.int .i64 0, .slice none 0 0]) w := by kernel_rfl
set_option maxRecDepth 100000 in
/-- A sector whose stamp or kind is none of a slot's. -/
theorem stand_bad (g cap : Nat) (s : List UInt8) (w : World) (hl : s.length = 256) (hA : At w (some ⟨g, 0, none⟩) s) (hT : Tab w) (hb : U.bad s) : Calls Tryd.prog 34 #[.slice (some ⟨g, 0, none⟩) 256 cap] w (PStand w ⟨0, []⟩) := by
  have HO := hid (fun w' (h : Adds w w') => show Calls Tryd.prog 54 #[.slice (some ⟨g, 0, none⟩) 256 cap] w' (PSOpen w' s) by
    have q := sopen_any (some ⟨g, 0, none⟩) s cap w' (fun e => by cases e) (hA.adds h) (hT.adds h)
    rw [hl] at q
    exact q)
  have hbl := fun w => build_slot0 w
  clear hA hT hl
  unfold U.bad at hb
  unfold PSOpen at HO
  generalize M.oErr s = oe at *
  generalize M.oKind s = ok at *
  generalize M.oMark s = om at *
  generalize M.oBody s = ob at *
  by_cases h1 : oe = 0
  · subst h1
    by_cases h2 : ok = 3
    · subst h2
      have h3 : 1000000000 < om := by simpa using hb
      have h3b : (1000000000 : Int) < (om : Int) := by omega
      clear hb h3
      go_enter Tryd.func34, Tryd.ntmps34
      go_wp2_with (first
        | (go_at_call 54; refine (HO.out _ ((Touch.refl _ w).alloc _)).mono ?_; rintro e w1 ⟨av, cv, rfl, hB1, hA1⟩
           have hb0 : w1.heap[w.heap.size]? = some (.cells #[.int .i64 0, .slice none 0 0] 53 (0, 0)) := hA1.at' (heap_alloc_new w _) id
           have c0 := cellOf hb0 0
           have c1 := cellOf hb0 1
           have f0 := frozen_of_row w1 _ 0 _ 53 hb0
           have f1 := frozen_of_row w1 _ 1 _ 53 hb0
           have A1 := hid hA1
           have B1 := hid hB1
           clear hA1 hb0 hB1))
      refine bodyPost_ret (v := .agg #[.int .i64 0, .slice none 0 0]) (by simp [results, Tryd.results34, go_sem, c0, c1]) rfl ⟨none, 0, rfl, NQ.nil _ _, ?_⟩
      exact ((((Touch.refl _ w).alloc _).trans A1.out).setCell (fun h => absurd h (Nat.lt_irrefl _)) _).setCell (fun h => absurd h (Nat.lt_irrefl _)) _
    · have h2b : (((ok.toNat : Nat) : Int) == 3) = false := by
        rw [beq_eq_false_iff_ne]
        intro c
        exact h2 (UInt8.toNat_inj.1 (by show ok.toNat = 3; omega))
      have h2c : ¬ ((ok.toNat : Nat) : Int) = 3 := by simpa using h2b
      clear hb h2
      go_enter Tryd.func34, Tryd.ntmps34
      go_wp2_with (first
        | (go_at_call 54; refine (HO.out _ ((Touch.refl _ w).alloc _)).mono ?_; rintro e w1 ⟨av, cv, rfl, hB1, hA1⟩
           have hb0 : w1.heap[w.heap.size]? = some (.cells #[.int .i64 0, .slice none 0 0] 53 (0, 0)) := hA1.at' (heap_alloc_new w _) id
           have c0 := cellOf hb0 0
           have c1 := cellOf hb0 1
           have f0 := frozen_of_row w1 _ 0 _ 53 hb0
           have f1 := frozen_of_row w1 _ 1 _ 53 hb0
           have A1 := hid hA1
           have B1 := hid hB1
           clear hA1 hb0 hB1))
      refine bodyPost_ret (v := .agg #[.int .i64 0, .slice none 0 0]) (by simp [results, Tryd.results34, go_sem, c0, c1]) rfl ⟨none, 0, rfl, NQ.nil _ _, ?_⟩
      exact ((((Touch.refl _ w).alloc _).trans A1.out).setCell (fun h => absurd h (Nat.lt_irrefl _)) _).setCell (fun h => absurd h (Nat.lt_irrefl _)) _
  · have h1b : ¬ (oe : Int) = 0 := by omega
    clear hb h1
    go_enter Tryd.func34, Tryd.ntmps34
    go_wp2_with (first
      | (go_at_call 54; refine (HO.out _ ((Touch.refl _ w).alloc _)).mono ?_; rintro e w1 ⟨av, cv, rfl, hB1, hA1⟩
         have hb0 : w1.heap[w.heap.size]? = some (.cells #[.int .i64 0, .slice none 0 0] 53 (0, 0)) := hA1.at' (heap_alloc_new w _) id
         have c0 := cellOf hb0 0
         have c1 := cellOf hb0 1
         have f0 := frozen_of_row w1 _ 0 _ 53 hb0
         have f1 := frozen_of_row w1 _ 1 _ 53 hb0
         have A1 := hid hA1
         have B1 := hid hB1
         clear hA1 hb0 hB1))
    refine bodyPost_ret (v := .agg #[.int .i64 0, .slice none 0 0]) (by simp [results, Tryd.results34, go_sem, c0, c1]) rfl ⟨none, 0, rfl, NQ.nil _ _, ?_⟩
    exact ((((Touch.refl _ w).alloc _).trans A1.out).setCell (fun h => absurd h (Nat.lt_irrefl _)) _).setCell (fun h => absurd h (Nat.lt_irrefl _)) _
set_option maxRecDepth 100000 in
/-- A sector that is a slot's by its stamp and its kind. -/
theorem stand_good (g cap : Nat) (s : List UInt8) (w : World) (hl : s.length = 256) (hA : At w (some ⟨g, 0, none⟩) s) (hT : Tab w) (hb : ¬ U.bad s) : Calls Tryd.prog 34 #[.slice (some ⟨g, 0, none⟩) 256 cap] w (PStand w (U.slot s)) := by
  have h1 : M.oErr s = 0 := by unfold U.bad at hb; omega
  have h2 : M.oKind s = 3 := by
    by_cases h2 : M.oKind s = 3
    · exact h2
    · exact absurd (.inr (.inl h2)) hb
  have h3 : M.oMark s ≤ 1000000000 := by unfold U.bad at hb; omega
  have HO := hid (fun w' (h : Adds w w') => show Calls Tryd.prog 54 #[.slice (some ⟨g, 0, none⟩) 256 cap] w' (fun e w'' => ∃ b o, e = .returned (.tuple #[.int .u64 (M.oMark s : Int), .int .u8 3, .slice (some ⟨b, o, none⟩) (M.oBody s).length (M.oBody s).length, .int .i64 0]) ∧ Hid (At w'' (some ⟨b, o, none⟩) (M.oBody s) ∧ Adds w' w'')) by
    have q := sopen_piece g cap s hl (hA.adds h) (hT.adds h) h1
    rw [h2] at q
    refine q.mono ?_
    rintro e w'' ⟨o, he, hH⟩
    exact ⟨_, o, he, hH⟩)
  have hbl0 := fun w => build_slot0 w
  have hbl2 := fun z a n cap w => build_slot2 z a n cap w
  have hbody := W.oBody_le s
  have HQ := hid (fun h4 => U.slot_yes hb h4)
  have HQ2 := hid (fun h4 => U.slot_end (b := s) h4)
  clear hA hT hl hb h1 h2
  generalize M.oMark s = om at *
  generalize M.oBody s = ob at *
  obtain ⟨N, hN⟩ : ∃ N, N = U.cnt ob := ⟨_, rfl⟩
  obtain ⟨s0, hs0⟩ : ∃ s0, s0 = U.st0 ob := ⟨_, rfl⟩
  have hN1 : N ≤ 20 := by rw [hN]; exact U.cnt_le _
  rw [← hN, ← hs0] at HQ HQ2
  have HRd := hid (fun w1 b o (h : At w1 (some ⟨b, o, none⟩) ob) => show Calls Tryd.prog 55 #[.slice (some ⟨b, o, none⟩) ob.length ob.length] w1 (PRead w1 ob) from read_any (some ⟨b, o, none⟩) ob ob.length w1 (by omega) (fun e => by cases e) h)
  have HU := hid (fun w1 p (h : RD w1 (Ptr p) ⟨0, ob⟩) => show Calls Tryd.prog 56 #[Ptr p, .int .u64 20] w1 (PR w1 (Ptr p) (.int .u64 (N : Int)) s0) by rw [hN, hs0]; exact uint_any 20 h)
  have HT := hid (fun w1 p t (h : RD w1 (Ptr p) t) => show Calls Tryd.prog 56 #[Ptr p, .int .u64 18446744073709551615] w1 (PR w1 (Ptr p) (.int .u64 ((M.uintR 18446744073709551615 t).1 : Int)) (M.uintR 18446744073709551615 t).2) from uint_any 18446744073709551615 h)
  have HE := hid (fun w1 p t (h : RD w1 (Ptr p) t) => end_any h)
  clear hN hs0 hbody
  generalize ob.length = obl at *
  go_enter Tryd.func34, Tryd.ntmps34
  go_wp2_with (first
    | (go_at_call 54; refine (HO.out _ ((Touch.refl _ w).alloc _)).mono ?_; rintro e w1 ⟨b1, o1, rfl, H1⟩)
    | (go_at_call 55; refine (HRd.out w1 b1 o1 H1.out.1).mono ?_; rintro e w2 ⟨p, rfl, hp, hr2, hA2⟩; have H2 := hid (And.intro hp (And.intro hr2 (H1.out.2.trans hA2))); clear hp hr2 hA2)
    | (go_at_call 56; refine (HU.out w2 p H2.out.2.1).mono ?_; rintro e w3 ⟨rfl, hr3, hT3⟩; have H3 := hid (And.intro hr3 (Adds.own H2.out.2.2 hT3 (by have h1 := H2.out.1; have h2 := H1.out.2.size; omega))); clear hr3 hT3))
  go_loopw [8, 31] (fun v i wr => ∃ (k : Nat), k ≤ N ∧ i = .int .u64 (k : Int) ∧ Hid (FreshN (p + 1) wr v k (U.lsU s0 k) ∧ RD wr (Ptr p) (U.stU s0 k) ∧ Adds (w.alloc (.cells #[.int .i64 0, .slice none 0 0] 53)) wr)) (fun _ i _ => N - (intOf i).toNat)
  case atStart => exact ⟨0, by omega, rfl, FreshN.nil _ _, H3.out.1, H3.out.2⟩
  case round =>
    obtain ⟨k, hk, rfl, HI⟩ := hrel
    have hwp : w.heap.size < p := by have h1 := H2.out.1; have h2 := H1.out.2.size; simp at h2; omega
    by_cases hlt : k < N
    · obtain ⟨t, ht⟩ : ∃ t, t = (M.uintR 18446744073709551615 (U.stU s0 k)).1 := ⟨_, rfl⟩
      have HX := hid (HT.out wr p _ HI.out.2.1)
      rw [← ht] at HX
      have HTt := hid ht
      clear ht
      go_wp2_with (first
        | (go_at_call 56; refine HX.out.mono ?_; rintro e w4 ⟨rfl, hr4, hT4⟩
           have hF4 := HI.out.1.touch hT4 (fun k hk c => by simp only [Own1, Value.pointer.injEq, Option.some.injEq, Addr.mk.injEq] at c; omega)
           have HA4 := hid (show (w4.alloc (.cells #[.int .u64 (t : Int)] 67)).ownsRow 0 67 1 u8 k (N8 (U.lsU s0 k)) from row_touch hF4.rows ((Touch.refl _ w4).alloc (.cells #[.int .u64 (t : Int)] 67)) (fun _ _ => id))
           have HC4 := hid (show (w4.alloc (.cells #[.int .u64 (t : Int)] 67)).cell? ⟨w4.heap.size, 0, none⟩ = some (.int .u64 (t : Int)) from cellOf (heap_alloc_new w4 _) 0)
           have H4 := hid (And.intro hr4 (And.intro hF4 (Adds.own HI.out.2.2 hT4 (by simp; omega))))
           clear hr4 hT4 hF4)
        | (at_builtin; refine append_u1 rfl _ _ rfl u8 k (N8 (U.lsU s0 k)) rfl HA4.out w4.heap.size (.int .u64 (t : Int)) rfl HC4.out rfl (by omega) ?_; intro v5 w5 G5; have HG := hid G5; clear G5))
      go_roundw
      case rel =>
        obtain ⟨hr4, hF4, hA4⟩ := H4.out
        have hG := HG.out
        have hAy : Adds w4 (w4.alloc (.cells #[.int .u64 (t : Int)] 67)) := (Touch.refl _ w4).alloc _
        have hp4 : p < w4.heap.size := hr4.lt
        refine ⟨k + 1, by omega, by go_num, ⟨?_, hG.lt (by simp; omega) hF4.own⟩, ?_, ?_⟩
        · have q := hG.1
          rw [show N8 (U.lsU s0 k) ++ [Value.int IntKind.u64 (t : Int)] = N8 (U.lsU s0 (k + 1)) by rw [U.lsU, N8_app, ← HTt.out]; rfl] at q
          exact q
        · exact (hr4.above hAy (fun _ c => c.elim)).above hG.touch (fun j c => hF4.own j c)
        · exact (hA4.trans hAy).then hG.touch (fun j hj c => by have := hF4.own j c; simp at hj; omega)
      case measure => simp [intOf]; omega
    · obtain rfl : k = N := by omega
      have hb0 : wr.heap[w.heap.size]? = some (.cells #[.int .i64 0, .slice none 0 0] 53 (0, 0)) := HI.out.2.2.at' (heap_alloc_new w _) id
      have c0 := cellOf hb0 0
      have c1 := cellOf hb0 1
      have f0 := frozen_of_row wr _ 0 _ 53 hb0
      have f1 := frozen_of_row wr _ 1 _ 53 hb0
      have HX := hid (HE.out wr p _ HI.out.2.1)
      have hA0 := hid (((Touch.refl _ w).alloc _).trans HI.out.2.2)
      clear hb0
      by_cases hz : M.endE (U.stU s0 k) = 0
      · rw [hz] at HX
        have HW := hid (HQ.out hz)
        obtain ⟨a9, cap9, hv9, hq9⟩ := HI.out.1.part
        subst hv9
        have HQ9 := hid hq9
        clear hz hq9
        go_wp2_with (first | (go_at_call 57; refine HX.out.mono ?_; rintro e _ ⟨rfl, hw⟩; rw [hw]; clear hw))
        refine bodyPost_ret (v := .agg #[.int .i64 (om : Int), .slice a9 k cap9]) (by simp [results, Tryd.results34, go_sem, c0, c1]) rfl ⟨a9, cap9, by rw [HW.out]; show _ = Ending.returned (.agg #[.int .i64 (om : Int), .slice a9 (U.lsU s0 k).length cap9]); rw [U.lsU_len], ?_, ?_⟩
        · have hT9 : Touch (fun j => j = w.heap.size) wr ((wr.setCell ⟨w.heap.size, 0, none⟩ (.int .i64 (om : Int))).setCell ⟨w.heap.size, 1, none⟩ (.slice a9 k cap9)) := Touch.setCell (T := fun j => j = w.heap.size) (Touch.setCell (T := fun j => j = w.heap.size) (Touch.refl _ wr) (p := ⟨w.heap.size, 0, none⟩) (fun _ => rfl) _) (p := ⟨w.heap.size, 1, none⟩) (fun _ => rfl) _
          rw [HW.out]
          exact (HQ9.out.touch hT9 (fun j hj e => by omega)).mono (fun j _ hj => by omega)
        · exact (hA0.out.setCell (fun h => absurd h (Nat.lt_irrefl _)) _).setCell (fun h => absurd h (Nat.lt_irrefl _)) _
      · have HW := hid (HQ2.out hz)
        obtain ⟨z, hz2⟩ : ∃ z, z = M.endE (U.stU s0 k) := ⟨_, rfl⟩
        rw [← hz2] at HX hz
        have hz' : ¬ (z : Int) = 0 := by omega
        clear hz hz2
        go_wp2_with (first | (go_at_call 57; refine HX.out.mono ?_; rintro e _ ⟨rfl, hw⟩; rw [hw]; clear hw))
        refine bodyPost_ret (v := .agg #[.int .i64 0, .slice none 0 0]) (by simp [results, Tryd.results34, go_sem, c0, c1]) rfl ⟨none, 0, by rw [HW.out]; rfl, by rw [HW.out]; exact NQ.nil _ _, ?_⟩
        exact (hA0.out.setCell (fun h => absurd h (Nat.lt_irrefl _)) _).setCell (fun h => absurd h (Nat.lt_irrefl _)) _
set_option maxRecDepth 100000 in
theorem stand_any (g cap : Nat) (s : List UInt8) (w : World) (hl : s.length = 256) (hA : At w (some ⟨g, 0, none⟩) s) (hT : Tab w) : Calls Tryd.prog 34 #[.slice (some ⟨g, 0, none⟩) 256 cap] w (PStand w (U.slot s)) := by
  by_cases hb : U.bad s
  · rw [U.slot_no hb]
    exact stand_bad g cap s w hl hA hT hb
  · exact stand_good g cap s w hl hA hT hb
end Go.Proofs.YtmmgfankbabfbaaDoor
