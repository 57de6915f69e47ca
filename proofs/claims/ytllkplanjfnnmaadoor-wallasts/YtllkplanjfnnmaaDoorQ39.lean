/- Texts put together: WLaCom, WLaRow, WActs, WLa0, WLa1, WLa2. -/
import Derived.Test.YtllkplanjfnnmaaDoorQ38
import Derived.Test.YtllkplanjfnnmaaDoorQ35
import Derived.Test.YtllkplanjfnnmaaDoorQ32
import Derived.Test.YtllkplanjfnnmaaDoorQ14
import Derived.Lib.SmallJoins
import Derived.Deep.Grids
/- WalLasts: a Commit, whatever way it ends. -/
namespace Go.Proofs.YtllkplanjfnnmaaDoor
open Go.RowKit
/-- A log of nine sectors in the epoch 2, and its disk, ahead of a cut. -/
structure Run (L : LS) (D : dSt) : Prop where
  two : Two L
  ok : L.Ok
  lst : Lst D.H L.G
  wait : D.W = []
  size : D.size = 10
set_option maxRecDepth 100000 in
theorem run_good {L : LS} {D : dSt} (h : Run L D) (hR : L.R ≠ []) : W.Good (W.gbytes L.R) ∧ W.usedOf L.G + W.secs (W.gbytes L.R).length ≤ 9 ∧ W.recs (W.gbytes L.R) = L.R := by
  have hw := h.ok.wt hR
  have hu := h.ok.us
  rw [h.two.ct] at hw hu
  have hl := secs_len hw
  have hr := W.recs_put L.R (by omega)
  exact ⟨⟨by omega, by rw [hr]; exact hR⟩, by omega, hr⟩
/-- What the disk has behind a Commit that was cut. -/
structure Cutd (L : LS) (D : dSt) : Prop where
  lst : Lst D.H L.G
  good : W.Good (W.gbytes L.R)
  room : W.usedOf L.G + W.secs (W.gbytes L.R).length ≤ 9
  recs : W.recs (W.gbytes L.R) = L.R
  size : D.size = 10
  wait : ∃ c, c ≤ W.secs (W.gbytes L.R).length ∧ D.W = (List.range c).map (fun j => fW 1 2 (W.usedOf L.G) (W.gbytes L.R) (0 + j))
set_option maxRecDepth 100000 in
theorem run_com {L : LS} {D : dSt} (h : Run L D) (hl : -1 ≤ D.left) : (L.R = [] ∧ comE L D = 0 ∧ comL L D = L ∧ comD L D = D) ∨ (L.R ≠ [] ∧ comE L D = 0 ∧ comL L D = { L with G := L.G ++ [W.gbytes L.R], R := [] } ∧ Run (comL L D) (comD L D)) ∨ (L.R ≠ [] ∧ comE L D = 10 ∧ Cutd L (comD L D)) := by
  have hc : ¬ L.cl = true := by rw [h.two.cl]; decide
  by_cases hR : L.R = []
  · exact .inl ⟨hR, by rw [comE, if_neg hc, if_pos hR], by rw [comL, if_neg hc, if_pos hR], by rw [comD, if_neg hc, if_pos hR]⟩
  · obtain ⟨hg, hu, hr⟩ := run_good h hR
    refine .inr ?_
    by_cases hn : D.left = -1 ∨ ((W.secs (W.gbytes L.R).length : Nat) : Int) < D.left
    · have e : comR L D = (0, (wroteN D (fW L.fr L.ep (W.usedOf L.G) (W.gbytes L.R)) 0 (W.secs (W.gbytes L.R).length)).synced) := goW_all hn
      have e1 : comE L D = 0 := by rw [comE, if_neg hc, if_neg hR, e]
      have e2 : comL L D = { L with G := L.G ++ [W.gbytes L.R], R := [] } := by rw [comL, if_neg hc, if_neg hR, e, if_pos rfl]
      refine .inl ⟨hR, e1, e2, ?_, h.ok.com D, ?_, ?_, ?_⟩
      · rw [e2]; exact ⟨h.two.fr, h.two.ct, h.two.ep, h.two.cl⟩
      · rw [e2, comD, if_neg hc, if_neg hR, e]
        show Lst (syncH (wroteN D _ 0 _).H (wroteN D _ 0 _).W) _
        rw [wroteN_H, wroteN_W, h.wait, List.nil_append, h.two.fr, h.two.ep]
        exact h.lst.more hg hu
      · rw [comD, if_neg hc, if_neg hR, e]; rfl
      · rw [comD, if_neg hc, if_neg hR, e]
        show (wroteN D _ 0 _).size = _
        rw [wroteN_size]; exact h.size
    · have e : comR L D = (10, wroteN D (fW L.fr L.ep (W.usedOf L.G) (W.gbytes L.R)) 0 D.left.toNat) := goW_cut (by omega) (by omega)
      refine .inr ⟨hR, by rw [comE, if_neg hc, if_neg hR, e], ?_⟩
      rw [comD, if_neg hc, if_neg hR, e]
      refine ⟨by rw [wroteN_H]; exact h.lst, hg, hu, hr, by rw [wroteN_size]; exact h.size, D.left.toNat, by omega, ?_⟩
      rw [wroteN_W, h.wait, List.nil_append, h.two.fr, h.two.ep]
/-- What a log that is opened behind a loss has. -/
structure Ends (ks : List Bool) (tn at_ : Int) (G : List (List UInt8)) (R : List (List UInt8)) (D : dSt) : Prop where
  two : (W.find 2 (secOf (D.lost ks tn at_) 1) 9 0 [] [] 0).1 = G ∨ ((W.find 2 (secOf (D.lost ks tn at_) 1) 9 0 [] [] 0).1 = G ++ [W.gbytes R] ∧ W.recs (W.gbytes R) = R)
  three : (W.find 3 (secOf (D.lost ks tn at_) 1) 9 0 [] [] 0).1 = []
set_option maxRecDepth 100000 in
theorem Run.ends {L : LS} {D : dSt} (h : Run L D) (ks : List Bool) (tn at_ : Int) : Ends ks tn at_ L.G L.R D := by
  obtain ⟨h1, h2⟩ := lost_none (ks := ks) (tn := tn) (at_ := at_) h.lst h.wait
  exact ⟨.inl h1, h2⟩
set_option maxRecDepth 100000 in
theorem Cutd.ends {L : LS} {D : dSt} (h : Cutd L D) (ks : List Bool) (tn at_ : Int) (hat : 0 ≤ tn ∧ tn < D.W.length → 0 ≤ at_ ∧ at_ ≤ 256) : Ends ks tn at_ L.G L.R D := by
  obtain ⟨c, hc, hW⟩ := h.wait
  have hl : D.W.length = c := by rw [hW]; simp
  rw [hl] at hat
  obtain ⟨h1, h2⟩ := lost_find (ks := ks) (tn := tn) (at_ := at_) h.lst h.good h.room hc hW hat
  refine ⟨?_, h2⟩
  rcases h1 with q | q
  · exact .inl q
  · exact .inr ⟨q, h.recs⟩
theorem run_new : Run ⟨1, 9, 2, false, [], []⟩ (dSt.new 10) :=
  ⟨⟨rfl, rfl, rfl, rfl⟩, ⟨by show 1 ≤ 4096; decide, by show 9 ≤ 10000; decide, by show 2 ≤ 1000000000; decide, Nat.zero_le _, fun c => absurd rfl c, fun g hg => (by cases hg)⟩, ⟨trivial, fun _ _ _ => rfl, Nat.zero_le _, fun g hg => (by cases hg)⟩, rfl, rfl⟩
theorem Run.cut {L : LS} {D : dSt} (h : Run L D) (n : Int) : Run L (D.cut n) := ⟨h.two, h.ok, h.lst, h.wait, h.size⟩
set_option maxRecDepth 100000 in
theorem Run.app {L : LS} {D : dSt} (h : Run L D) (bs : List UInt8) : Run (appL L bs) D := by
  have hG : (appL L bs).G = L.G := by unfold appL; split <;> rfl
  exact ⟨h.two.app bs, h.ok.app bs, by rw [hG]; exact h.lst, h.wait, h.size⟩
end Go.Proofs.YtllkplanjfnnmaaDoor

/- WalLasts: a law's list of groups and its list of records, both grown in place, beside a log. -/
namespace Go.Proofs.YtllkplanjfnnmaaDoor
open Go.RowKit
/-- vd: the groups that are done, vg: the records of the group under way. -/
structure DG (N : Nat → Prop) (w : World) (vd vg : Value) (t : List Pl) (hs : List Part) : Prop where
  rows : w.ownsRow 0 33 1 vd t.length (t.map GV)
  own : ∀ k, vd.ownBlock = some k → N k ∧ k < w.heap.size
  data : ∀ g ∈ t, GQ w (fun k => N k ∧ vd.ownBlock ≠ some k ∧ vg.ownBlock ≠ some k) g
  grp : Gr (fun k => N k ∧ vd.ownBlock ≠ some k) w vg hs
theorem DG.nil (N : Nat → Prop) (w : World) : DG N w (.slice none 0 0) (.slice none 0 0) [] [] := ⟨World.ownsRow_nil _ _ _ _, fun _ hk => (by cases hk), fun _ hx => (by cases hx), Gr.nil _ _⟩
set_option maxRecDepth 100000 in
theorem DG.next {N N' T : Nat → Prop} {w w' : World} {vd vg : Value} {t : List Pl} {hs : List Part} (h : DG N w vd vg t hs) (hT : Touch T w w') (hn : ∀ k, N k → ¬ T k) (hN : ∀ k, k < w.heap.size → N k → N' k) : DG N' w' vd vg t hs := by
  refine ⟨row_touch h.rows hT (fun k hk => hn k (h.own k hk).1), fun k hk => ⟨hN k (h.own k hk).2 (h.own k hk).1, Nat.lt_of_lt_of_le (h.own k hk).2 hT.size⟩, fun x hx => ?_, h.grp.next hT (fun k q => hn k q.1) (fun k hk q => ⟨hN k hk q.1, q.2⟩)⟩
  have q := (h.data x hx).mono (Q' := fun k => N k ∧ N' k ∧ vd.ownBlock ≠ some k ∧ vg.ownBlock ≠ some k) (fun k hk q => ⟨q.1, hN k hk q.1, q.2⟩)
  exact (q.touch hT (fun k q => hn k q.1)).mono (fun k _ q => q.2)
theorem DG.adds {N : Nat → Prop} {w w' : World} {vd vg : Value} {t : List Pl} {hs : List Part} (h : DG N w vd vg t hs) (hA : Adds w w') : DG N w' vd vg t hs := h.next hA (fun _ _ => id) (fun _ _ q => q)
theorem DG.call {w0 w w' : World} {OL OD OL' OD' : Nat → Prop} {vd vg : Value} {t : List Pl} {hs : List Part} (h : DG (Nw w0 OL OD) w vd vg t hs) (hT : Touch (fun k => OL k ∨ OD k) w w') (hn : ∀ k, OL' k ∨ OD' k → (OL k ∨ OD k) ∨ w.heap.size ≤ k) : DG (Nw w0 OL' OD') w' vd vg t hs :=
  h.next hT (fun k q => q.2) (fun k hk q => ⟨q.1, fun c => by rcases hn k c with c | c; exact q.2 c; omega⟩)
set_option maxRecDepth 100000 in
/-- A record more. -/
theorem DG.more {N : Nat → Prop} {w w1 w2 : World} {vd vg vg' : Value} {t : List Pl} {hs : List Part} {x : Part} (h : DG N w vd vg t hs) (hA : Adds w w1) (hG : Grew w1 w2 22 vg vg' (hs.length + 1) (hs.map PV ++ [PV x])) (hN : ∀ k, w.heap.size ≤ k → N k) (hx : PQ w1 (fun k => (N k ∧ vd.ownBlock ≠ some k) ∧ vg.ownBlock ≠ some k) x) : DG N w2 vd vg' t (hs ++ [x]) := by
  have hw := hA.size
  have hw2 := hG.touch.size
  have hvd : ∀ k, w.heap.size ≤ k → vd.ownBlock ≠ some k := fun k hk c => by have := (h.own k c).2; omega
  refine ⟨row_touch (row_touch h.rows hA (fun _ _ => id)) hG.touch (fun k hk c => (h.grp.own k c).1.2 hk), fun k hk => ⟨(h.own k hk).1, by have := (h.own k hk).2; omega⟩, fun y hy => ?_, h.grp.more hA hG (fun k hk => ⟨hN k hk, hvd k hk⟩) hx⟩
  have q := ((h.data y hy).mono (Q' := fun k => (N k ∧ vd.ownBlock ≠ some k ∧ vg.ownBlock ≠ some k) ∧ vg'.ownBlock ≠ some k) (fun k hk q => ⟨q, fun c => by
    rcases hG.2.2 with e | e
    · exact q.2.2 (by rw [← e]; exact c)
    · rw [e] at c; cases c; omega⟩)).adds hA
  exact (q.touch hG.touch (fun k q => q.1.2.2)).mono (fun k _ q => ⟨q.1.1, q.1.2.1, q.2⟩)
set_option maxRecDepth 100000 in
/-- The group is done. -/
theorem DG.done {N : Nat → Prop} {w w1 w2 : World} {vd vd' : Value} {t : List Pl} {hs : List Part} {a : Option Addr} {c : Nat} (h : DG N w vd (.slice a hs.length c) t hs) (hq : GQ w (fun k => N k ∧ vd.ownBlock ≠ some k) ⟨a, c, hs⟩) (hA : Adds w w1) (hG : Grew w1 w2 33 vd vd' (t.length + 1) (t.map GV ++ [GV ⟨a, c, hs⟩])) (hN : ∀ k, w.heap.size ≤ k → N k) : DG N w2 vd' (.slice none 0 0) (t ++ [⟨a, c, hs⟩]) [] := by
  have hw := hA.size
  have hw2 := hG.touch.size
  have hlt : ∀ k, k < w.heap.size → vd.ownBlock ≠ some k → vd'.ownBlock ≠ some k := fun k hk hn c => by
    rcases hG.2.2 with e | e
    · exact hn (by rw [← e]; exact c)
    · rw [e] at c; cases c; omega
  have all : ∀ y ∈ t ++ [⟨a, c, hs⟩], GQ w (fun k => N k ∧ vd.ownBlock ≠ some k) y := fun y hy => by
    rcases List.mem_append.1 hy with hy | hy
    · exact (h.data y hy).mono (fun k _ q => ⟨q.1, q.2.1⟩)
    · rw [List.mem_singleton.1 hy]; exact hq
  refine ⟨by rw [List.length_append, List.map_append]; exact hG.1, fun k hk => ⟨?_, ?_⟩, fun y hy => ?_, Gr.nil _ _⟩
  · rcases hG.2.2 with e | e
    · exact (h.own k (by rw [← e]; exact hk)).1
    · rw [e] at hk; cases hk; exact hN _ hw
  · obtain ⟨a', c', e, _, hac, hq'⟩ := own_cq hG.1
    obtain ⟨b, o, _, hb, hc⟩ := hq' t.length (GV ⟨a, c, hs⟩) (by rw [List.getElem?_append_right (by simp)]; simp)
    rw [hk] at hb
    cases hb
    exact World.block_lt_of_cell? w2 _ hc
  · have q := ((all y hy).mono (Q' := fun k => (N k ∧ vd.ownBlock ≠ some k) ∧ vd'.ownBlock ≠ some k) (fun k hk q => ⟨q, hlt k hk q.2⟩)).adds hA
    exact (q.touch hG.touch (fun k q => q.1.2)).mono (fun k _ q => ⟨q.1.1, q.2, fun c => by cases c⟩)
/-- No group under way. -/
theorem DG.drop {N : Nat → Prop} {w : World} {vd vg : Value} {t : List Pl} {hs : List Part} (h : DG N w vd vg t hs) : DG N w vd (.slice none 0 0) t [] :=
  ⟨h.rows, h.own, fun y hy => (h.data y hy).mono (fun k _ q => ⟨q.1, q.2.1, fun c => by cases c⟩), Gr.nil _ _⟩
set_option maxRecDepth 100000 in
/-- Where they lie. -/
theorem DG.pl {N : Nat → Prop} {w : World} {vd vg : Value} {t : List Pl} {hs : List Part} (h : DG N w vd vg t hs) : ∃ a c ga gc, vd = .slice a t.length c ∧ vg = .slice ga hs.length gc ∧ (a = none → c = 0) ∧ CQ w N a (t.map GV) ∧ (∀ g ∈ t, GQ w N g) ∧ GQ w (fun k => N k ∧ vd.ownBlock ≠ some k) ⟨ga, gc, hs⟩ := by
  obtain ⟨a, c, e, _, h2, h3⟩ := own_cq h.rows
  obtain ⟨ga, gc, e', hq⟩ := h.grp.pl
  exact ⟨a, c, ga, gc, e, e', h2, h3.mono (fun k _ q => (h.own k q).1), fun g hg => (h.data g hg).mono (fun _ _ q => q.1), hq⟩
end Go.Proofs.YtllkplanjfnnmaaDoor

/- Calls of a law that came in: where they lie. -/
namespace Go.Proofs.YtllkplanjfnnmaaDoor
open Go.ChangeShapes Go.WideShapes Go.ChangeAt Go.RowKit Go.Joins
/-- A call's cells. -/
def actC (k0 n0 p0 : Int) (c : UInt8) (ka : Option Addr) (kn kc : Nat) (torn at_ : Int) : List Value :=
  [.int .i64 k0, .int .i64 n0, .int .i64 p0, .int .u8 (c.toNat : Int), .slice ka kn kc, .int .i64 torn, .int .i64 at_]
theorem one_actC (k0 n0 p0 : Int) (c : UInt8) (ka : Option Addr) (kn kc : Nat) (torn at_ : Int) : ∀ u ∈ actC k0 n0 p0 c ka kn kc torn at_, u.oneCell' = true := fun u hu => by
  simp only [actC, List.mem_cons, List.not_mem_nil, or_false] at hu
  rcases hu with rfl | rfl | rfl | rfl | rfl | rfl | rfl <;> rfl
/-- What is told of the calls: where they lie. -/
def ActsAt (w : World) (a : Option Addr) (len : Nat) : Prop := len ≤ 9223372036854775807 ∧ ∀ j, j < len → ∃ b o k0 n0 p0 c ka kc ks torn at_, a = some ⟨b, o, none⟩ ∧
  w.rangeAt b (o + j * 7) (actC k0 n0 p0 c ka (List.length ks) kc torn at_) ∧ KeptAt w ka ks ∧ ks.length ≤ 9223372036854775807 ∧ (n0 ≤ 9223372036854775807 ∧ -9223372036854775808 ≤ n0)
set_option maxRecDepth 100000 in
theorem zeroAct (w : World) : (zeroValue 53).run Tryd.prog w = .ok (.agg #[.int .i64 0, .int .i64 0, .int .i64 0, .int .u8 0, .slice none 0 0, .int .i64 0, .int .i64 0]) w := by kernel_rfl
set_option maxRecDepth 100000 in
theorem infoAct : (Tryd.prog.info? 53).map (·.size) = some 7 := by kernel_rfl
set_option maxRecDepth 100000 in
/-- Out of the reading: where a slice's truths lie. -/
theorem bools_at {H : Type} {enc : TypeId × Value → H} {W : World} {v : Value} {n : Nat} {y : DataW H × List MemPlace} (h : DataW.trod enc Tryd.prog W 0 (fun _ => true) true n 46 [v] = some y) :
    ∃ ka kc ks, v = .slice ka (List.length ks) kc ∧ KeptAt W ka ks ∧ ks.length ≤ 9223372036854775807 := by
  rcases Go.Deep.open_bools Tryd.underlying46 Tryd.underlying4 (by kernel_rfl) h with ⟨hcs, _⟩ | ⟨a, len, cap, B, hcs, _, hl, hm, _, hcell⟩
  · simp at hcs
    subst hcs
    exact ⟨none, 0, [], rfl, fun j hj => absurd hj (by simp), by simp⟩
  · simp at hcs
    subst hcs
    refine ⟨some a, cap, (List.range len).map B, by simp, fun j hj => ?_, by unfold maxLen at hm; simp; omega⟩
    have hj' : j < len := by simpa using hj
    obtain ⟨b, o, sp⟩ := a
    have hc := hcell j (by omega)
    have hsp : sp = none := by
      have hc0 := hcell 0 (by omega)
      have : (⟨b, o, sp⟩ : Addr).add 0 = ⟨b, o, sp⟩ := rfl
      rw [this] at hc0
      cases sp with
      | none => rfl
      | some q => simp [World.cell?] at hc0; split at hc0 <;> simp at hc0
    subst hsp
    exact ⟨b, o, rfl, by rw [← Addr.add_mid, hc]; simp⟩
set_option maxRecDepth 100000 in
/-- Out of the reading: a loss. -/
theorem loss_of {H : Type} {enc : TypeId × Value → H} {W : World} {n : Nat} {cs : List Value} {y : DataW H × List MemPlace} (h : DataW.trod enc Tryd.prog W 0 (fun _ => true) true n 48 cs = some y) :
    ∃ ka kc ks torn at_, cs = [.slice ka (List.length ks) kc, .int .i64 torn, .int .i64 at_] ∧ KeptAt W ka ks ∧ ks.length ≤ 9223372036854775807 := by
  obtain ⟨ys, m, _, _, hl, hyl, hg⟩ := DataW.trod_struct Tryd.underlying48 h
  have cL : Tryd.prog.cellsOf 48 = 3 := by kernel_rfl
  have c3' : Tryd.prog.cellsOf 3 = 1 := by kernel_rfl
  have cB : Tryd.prog.cellsOf 46 = 1 := by kernel_rfl
  rw [cL] at hl
  match ys, hyl, cs, hl with
  | [z0, z1, z2], _, [v0, v1, v2], _ =>
    have q0 := hg 0 _ rfl
    have q1 := hg 1 _ rfl
    have q2 := hg 2 _ rfl
    simp [cB] at q0
    simp [c3'] at q1 q2
    obtain ⟨ka, kc, ks, e5, hk, hkn⟩ := bools_at q0
    obtain ⟨torn, e6, _, _⟩ := DataW.trod_int Tryd.underlying3 q1
    obtain ⟨at_, e7, _, _⟩ := DataW.trod_int Tryd.underlying3 q2
    refine ⟨ka, kc, ks, torn, at_, ?_, hk, hkn⟩
    simp at e5 e6 e7
    rw [e5, e6, e7]
set_option maxRecDepth 100000 in
/-- Out of the reading: a loss that came in. -/
theorem loss_at {H : Type} {enc : TypeId × Value → H} {W : World} {base : Nat} {v : Value} {d : DataW H} {p : List MemPlace} (hval : Value.okWide Tryd.prog W .any base 48 v) (h : DataW.Trod enc Tryd.prog W 0 (fun _ => true) true 48 v d p) : ∃ ka kc ks torn at_, v = .agg #[.slice ka (List.length ks) kc, .int .i64 torn, .int .i64 at_] ∧ KeptAt W ka ks ∧ ks.length ≤ 9223372036854775807 := by
  obtain ⟨cs, rfl, _⟩ := okWide_struct Tryd.underlying48 hval
  obtain ⟨l⟩ := cs
  obtain ⟨fuel, hf⟩ := h
  obtain ⟨ka, kc, ks, torn, at_, e, hk, hkn⟩ := loss_of hf
  simp only [Value.cells] at e
  exact ⟨ka, kc, ks, torn, at_, by rw [e], hk, hkn⟩
set_option maxRecDepth 100000 in
/-- Out of the reading: a call's cells. -/
theorem act_of {H : Type} {enc : TypeId × Value → H} {W : World} {n : Nat} {cs : List Value} {y : DataW H × List MemPlace} (h : DataW.trod enc Tryd.prog W 0 (fun _ => true) true n 53 cs = some y) :
    ∃ k0 n0 p0 c ka kc ks torn at_, cs = actC k0 n0 p0 c ka (List.length ks) kc torn at_ ∧ KeptAt W ka ks ∧ ks.length ≤ 9223372036854775807 ∧ (n0 ≤ 9223372036854775807 ∧ -9223372036854775808 ≤ n0) := by
  obtain ⟨xs, k, _, _, hl, hxl, hf⟩ := DataW.trod_struct Tryd.underlying53 h
  have cA : Tryd.prog.cellsOf 53 = 7 := by kernel_rfl
  have c3' : Tryd.prog.cellsOf 3 = 1 := by kernel_rfl
  have c5' : Tryd.prog.cellsOf 5 = 1 := by kernel_rfl
  have cL : Tryd.prog.cellsOf 48 = 3 := by kernel_rfl
  rw [cA] at hl
  match xs, hxl, cs, hl with
  | [y0, y1, y2, y3, y4], _, [v0, v1, v2, v3, v4, v5, v6], _ =>
    have g0 := hf 0 _ rfl
    have g1 := hf 1 _ rfl
    have g2 := hf 2 _ rfl
    have g3 := hf 3 _ rfl
    have g4 := hf 4 _ rfl
    simp [c3'] at g0 g1 g2
    simp [c5'] at g3
    simp [cL] at g4
    obtain ⟨k0, e0, _, _⟩ := DataW.trod_int Tryd.underlying3 g0
    obtain ⟨n0, e1, _, w1⟩ := DataW.trod_int Tryd.underlying3 g1
    obtain ⟨p0, e2, _, _⟩ := DataW.trod_int Tryd.underlying3 g2
    obtain ⟨z, e3, _, w3⟩ := DataW.trod_int Tryd.underlying5 g3
    obtain ⟨ka, kc, ks, torn, at_, e4, hk, hkn⟩ := loss_of g4
    have hz : 0 ≤ z ∧ z < 256 := by
      have := bounds_u8 w3
      omega
    have hc : z = ((UInt8.ofNat z.toNat).toNat : Int) := by
      have : (UInt8.ofNat z.toNat).toNat = z.toNat := by simp; omega
      rw [this]; omega
    have wb := bounds_i64 w1
    refine ⟨k0, n0, p0, UInt8.ofNat z.toNat, ka, kc, ks, torn, at_, ?_, hk, hkn, wb.2, wb.1⟩
    simp at e0 e1 e2 e3 e4
    rw [e0, e1, e2, e3, e4.1, e4.2.1, e4.2.2]
    unfold actC
    rw [← hc]
set_option maxRecDepth 100000 in
/-- Out of the reading: where the calls lie. -/
theorem acts_at {H : Type} {enc : TypeId × Value → H} {W : World} {a1 : Option Addr} {len1 cap1 : Nat} {d1 : DataW H} {p1 : List MemPlace} (h1 : DataW.Trod enc Tryd.prog W 0 (fun _ => true) true 45 (.slice a1 len1 cap1) d1 p1) : ActsAt W a1 len1 := by
  obtain ⟨fuel, hf⟩ := h1
  have cA : Tryd.prog.cellsOf 53 = 7 := by kernel_rfl
  rcases Go.Deep.open_slice Tryd.underlying45 hf with ⟨hcs, _⟩ | ⟨x, l, c, m, n, D, Pl, hcs, _, hl, hm, hmm, _, hx⟩
  · simp [Value.cells] at hcs
    obtain ⟨rfl, rfl, rfl⟩ := hcs
    exact ⟨by omega, fun j hj => absurd hj (by omega)⟩
  · simp [Value.cells] at hcs
    obtain ⟨rfl, rfl, rfl⟩ := hcs
    simp at hmm
    subst hmm
    refine ⟨by unfold maxLen at hm; omega, fun j hj => ?_⟩
    obtain ⟨b, o, sp⟩ := x
    have hsp : sp = none := by
      obtain ⟨cs0, k1, _⟩ := hx 0 (by omega)
      obtain ⟨_, hlen0, hcell0⟩ := World.cells?_some k1
      rw [cA] at hcell0 hlen0
      have hc0 := hcell0 0 (by omega)
      have e1 : ((⟨b, o, sp⟩ : Addr).add (0 * 7)).add 0 = ⟨b, o, sp⟩ := rfl
      rw [e1] at hc0
      cases sp with
      | none => rfl
      | some q =>
        rw [List.getElem?_eq_getElem (by omega)] at hc0
        simp [World.cell?] at hc0; split at hc0 <;> simp at hc0
    subst hsp
    obtain ⟨cs', k1, k2⟩ := hx j (by omega)
    rw [cA] at k1
    obtain ⟨_, hlen, hcell⟩ := World.cells?_some k1
    obtain ⟨k0, n0, p0, cc, ka, kc, ks, torn, at_, rfl, hk, hkn, hn0⟩ := act_of k2
    refine ⟨b, o, k0, n0, p0, cc, ka, kc, ks, torn, at_, rfl, fun i v hv => ?_, hk, hkn, hn0⟩
    have hi : i < 7 := (List.getElem?_eq_some_iff.1 hv).1
    have := hcell i hi
    rw [Addr.add_mid, Addr.add_mid, hv] at this
    exact this
end Go.Proofs.YtllkplanjfnnmaaDoor

/- WalLasts: its calls. -/
namespace Go.Proofs.YtllkplanjfnnmaaDoor
open Go.RowKit
def cutM (z : Int) : Nat := (z % 18446744073709551616).toNat % 40
set_option maxRecDepth 100000 in
theorem cut_wrap40 (z : Int) : wrap64 ((IntKind.u64.wrap z).tmod 40) = (cutM z : Int) := by
  unfold cutM
  rw [IntKind.wrap_u64]
  have h0 : 0 ≤ z % 18446744073709551616 := Int.emod_nonneg _ (by decide)
  rw [Int.tmod_eq_emod_of_nonneg h0]
  unfold wrap64
  omega
/-- A log, its disk, and a law's two lists, in the loop. -/
structure Lo (w0 w : World) (OL OD : Nat → Prop) (l p : Nat) (L : LS) (D : dSt) (k : Nat) (vd vg : Value) (t : List Pl) (hs : List Part) : Prop where
  wl : Wl w0 w OL OD l p L D
  run : Run L D
  dok : DOk D (10 * k)
  dg : DG (Nw w0 OL OD) w vd vg t hs
  now : hs.map (·.bs) = L.R
  was : t.map Pl.bs = L.G.map W.recs
  nh : hs.length ≤ k
  nt : t.length ≤ k
  nl : ∀ g ∈ t, g.l.length ≤ 30
set_option maxRecDepth 100000 in
theorem run_app {L : LS} {D : dSt} (h : Run L D) {bs : List UInt8} (hb : bs.length < 700) : (appE L bs = 0 ∧ appL L bs = { L with R := L.R ++ [bs] }) ∨ (appE L bs = 31 ∧ appL L bs = L) := by
  have hc : ¬ L.cl = true := by rw [h.two.cl]; decide
  have hl : ¬ 4096 < bs.length := by omega
  by_cases hw : W.secs (W.gbytes (L.R ++ [bs])).length ≤ L.ct - W.usedOf L.G
  · have e : appE L bs = 0 := by rw [appE, if_neg hc, if_neg hl, if_pos hw]
    exact .inl ⟨e, by rw [appL, if_pos e]⟩
  · have e : appE L bs = 31 := by rw [appE, if_neg hc, if_neg hl, if_neg hw]
    exact .inr ⟨e, by rw [appL, e]; rfl⟩
/-- Behind the loop. -/
structure Out (w0 w : World) (OL OD : Nat → Prop) (l p : Nat) (G R : List (List UInt8)) (D : dSt) (vd vg : Value) (t : List Pl) (hs : List Part) : Prop where
  wl : ∃ L, Wl w0 w OL OD l p L D
  ends : ∀ (ks : List Bool) (tn at_ : Int), (0 ≤ tn ∧ tn < D.W.length → 0 ≤ at_ ∧ at_ ≤ 256) → Ends ks tn at_ G R D
  size : D.size = 10
  waits : D.W.length ≤ 9
  dg : DG (Nw w0 OL OD) w vd vg t hs
  now : hs.map (·.bs) = R
  was : t.map Pl.bs = G.map W.recs
  nh : hs.length ≤ 30
  nt : t.length ≤ 30
  nl : ∀ g ∈ t, g.l.length ≤ 30
  good : ∀ g ∈ G, W.Good g
  used : W.usedOf G ≤ 9
  rlen : (W.gbytes R).length ≤ 3000
set_option maxRecDepth 100000 in
theorem run_rlen {L : LS} {D : dSt} (h : Run L D) : (W.gbytes L.R).length ≤ 3000 := by
  by_cases hR : L.R = []
  · rw [hR]; decide +kernel
  · have : W.secs (W.gbytes L.R).length ≤ 9 := by have := (run_good h hR).2.1; omega
    have := secs_len this
    omega
theorem Lo.out {w0 w : World} {OL OD : Nat → Prop} {l p k : Nat} {L : LS} {D : dSt} {vd vg : Value} {t : List Pl} {hs : List Part} (h : Lo w0 w OL OD l p L D k vd vg t hs) (hk : k ≤ 30) : Out w0 w OL OD l p L.G L.R D vd vg t hs :=
  ⟨⟨L, h.wl⟩, fun ks tn at_ _ => h.run.ends ks tn at_, h.run.size, by rw [h.run.wait]; exact Nat.zero_le _, h.dg, h.now, h.was, by have := h.nh; omega, by have := h.nt; omega, h.nl, h.run.lst.good, h.run.lst.used, run_rlen h.run⟩
/-- A Commit in the loop: whatever it was. -/
theorem lo_com {w0 w : World} {OL OD : Nat → Prop} {l p k : Nat} {L : LS} {D : dSt} {vd vg : Value} {t : List Pl} {hs : List Part} (h : Lo w0 w OL OD l p L D k vd vg t hs) (hk : k ≤ 30) (hT : Tab w0) : Calls Tryd.prog 10 #[Ptr l] w (PWl w0 w OL OD l p (comL L D) (comD L D) (.int .i64 (comE L D))) :=
  wl_commit h.wl h.run.ok h.dok (by rw [h.run.two.ct]; omega) (by rw [h.run.two.fr, h.run.two.ct, h.run.size]; decide) hT
set_option maxRecDepth 100000 in
theorem run_dok {L : LS} {D : dSt} {n : Nat} (h : Run L D) (hd : DOk D n) (hR : L.R ≠ []) (he : comE L D = 0) : DOk (comD L D) (n + 10) := by
  have hc : ¬ L.cl = true := by rw [h.two.cl]; decide
  have hs := (run_good h hR).2.1
  rw [comE, if_neg hc, if_neg hR] at he
  have hn : D.left = -1 ∨ ((W.secs (W.gbytes L.R).length : Nat) : Int) < D.left := by
    by_cases c : D.left = -1 ∨ ((W.secs (W.gbytes L.R).length : Nat) : Int) < D.left
    · exact c
    · have e : comR L D = (10, wroteN D (fW L.fr L.ep (W.usedOf L.G) (W.gbytes L.R)) 0 D.left.toNat) := goW_cut (by have := hd.left0; omega) (by omega)
      rw [e] at he
      cases he
  have e : comR L D = (0, (wroteN D (fW L.fr L.ep (W.usedOf L.G) (W.gbytes L.R)) 0 (W.secs (W.gbytes L.R).length)).synced) := goW_all hn
  rw [comD, if_neg hc, if_neg hR, e]
  show DOk ((wroteN D (fW L.fr L.ep (W.usedOf L.G) (W.gbytes L.R)) 0 (W.secs (W.gbytes L.R).length)).synced) (n + 10)
  have q1 := hd.steps0
  have q2 := hd.steps1
  have q3 : ((wroteN D (fW L.fr L.ep (W.usedOf L.G) (W.gbytes L.R)) 0 (W.secs (W.gbytes L.R).length)).synced).steps = D.steps + (W.secs (W.gbytes L.R).length : Nat) + 1 := by
    show (wroteN D _ 0 _).steps + 1 = _
    rw [wroteN_steps]
  have q4 : -1 ≤ ((wroteN D (fW L.fr L.ep (W.usedOf L.G) (W.gbytes L.R)) 0 (W.secs (W.gbytes L.R).length)).synced).left ∧ ((wroteN D (fW L.fr L.ep (W.usedOf L.G) (W.gbytes L.R)) 0 (W.secs (W.gbytes L.R).length)).synced).left ≤ 9223372036854775807 := by
    show -1 ≤ less (wroteN D _ 0 _).left ∧ less (wroteN D _ 0 _).left ≤ _
    rcases hn with c | c
    · rw [wroteN_uncut _ _ c]; exact ⟨by decide, by decide⟩
    · have := hd.left1
      rw [wroteN_cut _ _ _ (by omega)]
      unfold less
      split <;> omega
  refine ⟨Nat.zero_le _, by omega, by omega, q4.1, q4.2, ?_⟩
  show 0 < (wroteN D _ 0 _).size
  rw [wroteN_size]; exact hd.size
set_option maxRecDepth 100000 in
/-- The record is taken, or is not. -/
theorem lo_app {w0 w : World} {OL OD : Nat → Prop} {l p : Nat} {L L' : LS} {D : dSt} {z : Int} (h : Wl w0 w OL OD l p L D) (hr : Run L D) (a : Option Addr) (bs : List UInt8) (n cap : Nat) (hn : n = bs.length) (hA : At w a bs) (he : appE L bs = z ∧ appL L bs = L') : Calls Tryd.prog 9 #[Ptr l, .slice a n cap] w (PWl w0 w OL OD l p L' D (.int .i64 z)) := by
  have q := wl_append h hr.ok a bs n cap hn.symm hA
  rw [he.1, he.2] at q
  exact q
set_option maxRecDepth 100000 in
theorem lo_com' {w0 w : World} {OL OD : Nat → Prop} {l p k : Nat} {L L' : LS} {D D' : dSt} {z : Int} {vd vg : Value} {t : List Pl} {hs : List Part} (h : Lo w0 w OL OD l p L D k vd vg t hs) (hk : k ≤ 30) (hT : Tab w0) (he : comE L D = z ∧ comL L D = L' ∧ comD L D = D') : Calls Tryd.prog 10 #[Ptr l] w (PWl w0 w OL OD l p L' D' (.int .i64 z)) := by
  have q := lo_com h hk hT
  rw [he.1, he.2.1, he.2.2] at q
  exact q
set_option maxRecDepth 100000 in
theorem dg_more {w0 w4 w5 : World} {OL OD : Nat → Prop} {l p bl B : Nat} {L : LS} {D : dSt} {hs : List Part} {t : List Pl} {bs : List UInt8} {vd vg v5 : Value} {o : Obj} (hW : Wl w0 w4 OL OD l p L D) (hG : DG (Nw w0 OL OD) w4 vd vg t hs) (hX : PQ w4 (fun k => k = B) ⟨some ⟨B, 0, none⟩, bs, bs.length⟩) (hB : Nw w0 OL OD B) (hv : vd.ownBlock ≠ some B ∧ vg.ownBlock ≠ some B) (hbl : bl = bs.length)
    (h5 : Grew (w4.alloc o) w5 22 vg v5 (hs.length + 1) (hs.map PV ++ [.slice (some ⟨B, 0, none⟩) bl bl])) : Wl w0 w5 OL OD l p L D ∧ DG (Nw w0 OL OD) w5 vd v5 t (hs ++ [⟨some ⟨B, 0, none⟩, bs, bs.length⟩]) := by
  subst hbl
  have hA : Adds w4 (w4.alloc o) := (Touch.refl _ w4).alloc o
  refine ⟨(hW.add hA).touch h5.touch (fun k c => ⟨(hG.grp.own k c).1.1.2, (hG.grp.own k c).1.1.1⟩), hG.more hA h5 hW.new ((hX.adds hA).mono (fun k _ q => ?_))⟩
  subst q
  exact ⟨⟨hB, hv.1⟩, hv.2⟩
set_option maxRecDepth 100000 in
theorem dg_done {w0 w4 w5 : World} {OL OD : Nat → Prop} {l p : Nat} {L : LS} {D : dSt} {hs : List Part} {t : List Pl} {vd v5 : Value} {a : Option Addr} {c m : Nat} {o : Obj} (hW : Wl w0 w4 OL OD l p L D) (hG : DG (Nw w0 OL OD) w4 vd (.slice a m c) t hs) (hm : m = hs.length)
    (h5 : Grew (w4.alloc o) w5 33 vd v5 (t.length + 1) (t.map GV ++ [.slice a m c])) : Wl w0 w5 OL OD l p L D ∧ DG (Nw w0 OL OD) w5 v5 (.slice none 0 0) (t ++ [⟨a, c, hs⟩]) [] := by
  subst hm
  have hA : Adds w4 (w4.alloc o) := (Touch.refl _ w4).alloc o
  obtain ⟨_, _, ga, gc, _, e2, _, _, _, hq⟩ := hG.pl
  obtain ⟨rfl, -, rfl⟩ : a = ga ∧ hs.length = hs.length ∧ c = gc := by cases e2; exact ⟨rfl, rfl, rfl⟩
  exact ⟨(hW.add hA).touch h5.touch (fun k c => ⟨(hG.own k c).1.2, (hG.own k c).1.1⟩), hG.done hq hA h5 hW.new⟩
set_option maxRecDepth 100000 in
theorem Lo.nvd {w0 w w' : World} {OL OD : Nat → Prop} {l p k : Nat} {L : LS} {D : dSt} {vd vg : Value} {t : List Pl} {hs : List Part} (h : Lo w0 w OL OD l p L D k vd vg t hs) (hA : Adds w w') : vd.ownBlock ≠ some w'.heap.size ∧ vg.ownBlock ≠ some w'.heap.size := by
  have := hA.size
  exact ⟨fun c => by have := (h.dg.own _ c).2; omega, fun c => by have := (h.dg.grp.own _ c).2; omega⟩
theorem Lo.add {w0 w w' : World} {OL OD : Nat → Prop} {l p k : Nat} {L : LS} {D : dSt} {vd vg : Value} {t : List Pl} {hs : List Part} (h : Lo w0 w OL OD l p L D k vd vg t hs) (hA : Adds w w') : Lo w0 w' OL OD l p L D k vd vg t hs :=
  ⟨h.wl.add hA, h.run, h.dok, h.dg.adds hA, h.now, h.was, h.nh, h.nt, h.nl⟩
set_option maxRecDepth 100000 in
theorem out_cut {w0 w w' : World} {OL OD OL' OD' : Nat → Prop} {l p k : Nat} {L L' : LS} {D D' : dSt} {vd vg : Value} {t : List Pl} {hs : List Part} (h : Lo w0 w OL OD l p L D k vd vg t hs) (hk : k ≤ 30) (hc : Cutd L D') (hW : Wl w0 w' OL' OD' l p L' D') (hG : DG (Nw w0 OL' OD') w' vd vg t hs) : Out w0 w' OL' OD' l p L.G L.R D' vd vg t hs := by
  obtain ⟨c, hc1, hc2⟩ := hc.wait
  have hr := hc.room
  exact ⟨⟨_, hW⟩, fun ks tn at_ hat => hc.ends ks tn at_ hat, hc.size, by rw [hc2]; simp; omega, hG, h.now, h.was, by have := h.nh; omega, by have := h.nt; omega, h.nl, hc.lst.good, hc.lst.used, run_rlen h.run⟩
set_option maxRecDepth 100000 in
theorem lo_done {w0 w w' : World} {OL OD OL' OD' : Nat → Prop} {l p k : Nat} {L : LS} {D : dSt} {vd vg v5 : Value} {t : List Pl} {hs : List Part} {a : Option Addr} {c : Nat} (h : Lo w0 w OL OD l p L D k vd vg t hs) (hk : k ≤ 30) (hR : L.R ≠ []) (e1 : comE L D = 0) (e2 : comL L D = { L with G := L.G ++ [W.gbytes L.R], R := [] }) (hrun : Run (comL L D) (comD L D)) (h5 : Wl w0 w' OL' OD' l p (comL L D) (comD L D) ∧ DG (Nw w0 OL' OD') w' v5 (.slice none 0 0) (t ++ [⟨a, c, hs⟩]) []) : Lo w0 w' OL' OD' l p (comL L D) (comD L D) (k + 1) v5 (.slice none 0 0) (t ++ [⟨a, c, hs⟩]) [] := by
  refine ⟨h5.1, hrun, (run_dok h.run h.dok hR e1).mono (by omega), h5.2, by rw [e2]; rfl, ?_, Nat.zero_le _, by have := h.nt; simp; omega, fun g hg => by rcases List.mem_append.1 hg with q | q; exact h.nl g q; rw [List.mem_singleton.1 q]; exact Nat.le_trans h.nh hk⟩
  rw [e2, List.map_append, List.map_append, h.was, List.map_cons, List.map_cons, (run_good h.run hR).2.2, ← h.now]
  rfl
end Go.Proofs.YtllkplanjfnnmaaDoor

/- WalLasts: the calls behind its loop. -/
namespace Go.Proofs.YtllkplanjfnnmaaDoor
open Go.RowKit
set_option maxRecDepth 100000 in
theorem append_bbm {w : World} {ops : Array Oper} {rest : List Oper} {o : Oper} {act : Act} {Q : Exit → Act → World → Prop} {Q' : Nat → Prop} (hgd : o.guard = none) (s x : Operand)
    (ho : o.op = .call { callee := .builtin .append, args := #[s, x], argTypes := #[41, 41] }) (v : Value) (n : Nat) (xs : List Value) (hs : act.eval s = v) (hown : w.ownsRow 0 33 1 v n xs)
    (a : Option Addr) (m cap : Nat) (news : List Value) (hm : news.length = m) (hx : act.eval x = .slice a m cap) (hcap : a = none → cap = 0) (hA : CQ w Q' a news) (h1 : ∀ u ∈ news, u.oneCell' = true) (hlen : n + m ≤ 10000000)
    (h : ∀ v' w', Grew w w' 33 v v' (n + m) (xs ++ news) → wpList Tryd.prog ops Q rest (act.put o.dst v') w') : wpList Tryd.prog ops Q (o :: rest) act w := by
  obtain ⟨i0, hi, hz0, hz1, hz2⟩ := infoBB
  cases a with
  | none =>
    obtain rfl := hcap rfl
    obtain rfl : news = [] := by
      cases news with
      | nil => rfl
      | cons u l => obtain ⟨b, o', e, _⟩ := hA 0 u rfl; cases e
    obtain rfl : m = 0 := by rw [← hm]; rfl
    exact wpList_append_own_none hgd s x 41 ho 0 33 i0 1 Tryd.underlying41 hi v n xs hs hown hx (h v w ⟨by simpa using hown, ⟨rfl, rfl, rfl, Nat.le_refl _, fun _ _ _ => rfl⟩, .inl rfl⟩)
  | some ad =>
    refine wpList_append_own_at _ hgd s x 41 ho 0 33 i0 (.slice none 0 0) 1 24 Tryd.underlying41 hi hz0 hz1 hz2 rfl (by decide) v n xs hs hown ad m cap news hx (by omega) ?_ h1 (by unfold maxLen; omega) (by omega) (Nat.zero_le _) (fun v' w' g1 g2 _ g4 => h v' w' ⟨g1, g2, g4⟩)
    intro j y hj
    obtain ⟨b, o', e, _, hc⟩ := hA j y hj
    obtain rfl : ad = ⟨b, o', none⟩ := by simpa using e
    rw [Addr.add_mid]; exact hc
set_option maxRecDepth 100000 in
theorem one_GV (l : List Pl) : ∀ u ∈ l.map GV, u.oneCell' = true := by
  intro u hu
  obtain ⟨x, _, rfl⟩ := List.mem_map.1 hu
  rfl
set_option maxRecDepth 100000 in
theorem loseb {w0 w : World} {OL OD : Nat → Prop} {l p : Nat} {L : LS} {D : dSt} (h : Wl w0 w OL OD l p L D) (hw : D.W.length ≤ 9) (hs : D.size = 10) (ka : Option Addr) (kn kc : Nat) (tn at_ : Int) (ht : 0 ≤ tn ∧ tn < D.W.length) (hat : at_ < 0 ∨ 256 < at_) : Calls Tryd.prog 20 #[Ptr p, .agg #[.slice ka kn kc, .int .i64 tn, .int .i64 at_]] w (Adding (.tuple #[.pointer none, .int .i64 2]) w) := by
  obtain ⟨hb, wv, hd, _⟩ := h.disk
  refine (lose_bad 0 p hb wv D ka kn kc tn at_ w hd (by rw [hs]; decide) (by omega) ht hat).mono ?_
  rintro e w' ⟨he, hA⟩
  exact ⟨he, hA⟩
theorem used_len : ∀ {G : List (List UInt8)} {n : Nat}, W.usedOf G ≤ n → G.length ≤ n ∧ ∀ g ∈ G, g.length ≤ 233 * n
  | [], _, _ => ⟨Nat.zero_le _, fun g hg => (by cases hg)⟩
  | g :: G, n, h => by
    have hp := W.secs_pos g.length
    rw [W.usedOf] at h
    obtain ⟨h1, h2⟩ := used_len (G := G) (n := n - W.secs g.length) (by omega)
    refine ⟨by rw [List.length_cons]; omega, fun x hx => ?_⟩
    rcases List.mem_cons.1 hx with rfl | hx
    · exact secs_len (by omega)
    · have := h2 x hx; omega
/-- The groups that are told. -/
def PGs (w : World) (gs : List (List (List UInt8))) (e : Ending) (w' : World) : Prop := ∃ a c n, ∃ t : List Pl, e = .returned (.slice a n c) ∧ Hid (n = t.length ∧ CQ w' (fun k => w.heap.size ≤ k) a (t.map GV) ∧ (∀ g ∈ t, GQ w' (fun k => w.heap.size ≤ k) g) ∧ t.map Pl.bs = gs ∧ Adds w w')
set_option maxRecDepth 100000 in
theorem gs_any {w : World} {O : Nat → Prop} {l p : Nat} {L : LS} (h : IsLog w O l p L) (hb : ∀ g ∈ L.G, g.length ≤ 1000000) (hn : L.G.length ≤ 10000) : Calls Tryd.prog 12 #[Ptr l] w (PGs w (L.G.map W.recs)) := by
  refine (lgroups_any h hb hn).mono ?_
  rintro e w' ⟨v, t, he, q⟩
  obtain ⟨q1, q2, q3⟩ := q.out
  obtain ⟨a, c, e1, _, _, h3⟩ := own_cq q1.rows
  exact ⟨a, c, _, t, by rw [he, e1], rfl, h3.mono (fun k _ q => q1.own k q), fun g hg => (q1.data g hg).mono (fun _ _ q => q.1), q2, q3⟩
set_option maxRecDepth 100000 in
theorem same_l {w : World} {Q1 Q2 : Nat → Prop} {a1 a2 : Option Addr} {c1 c2 n1 n2 : Nat} {t1 t2 : List Pl} {b : Bool} (hn1 : n1 = t1.length) (hn2 : n2 = t2.length) (h1 : CQ w Q1 a1 (t1.map GV)) (g1 : ∀ g ∈ t1, GQ w Q1 g) (h2 : CQ w Q2 a2 (t2.map GV)) (g2 : ∀ g ∈ t2, GQ w Q2 g) (hb : n1 ≤ 1000000 ∧ n2 ≤ 1000000) (hm : (∀ g ∈ t1, g.l.length ≤ 1000000) ∧ ∀ g ∈ t2, g.l.length ≤ 1000000) (he : decide (t1.map Pl.bs = t2.map Pl.bs) = b) : Calls Tryd.prog 21 #[.slice a1 n1 c1, .slice a2 n2 c2] w (Adding (.bool b) w) := by
  have q := same8 a1 a2 c1 c2 n1 n2 t1 t2 w hn1.symm hn2.symm h1 g1 h2 g2 hb hm
  rw [he] at q
  exact q
set_option maxRecDepth 100000 in
theorem len_of {a b : List Pl} (h : a.map Pl.bs = b.map Pl.bs) (hb : ∀ g ∈ b, g.l.length ≤ 30) : a.length = b.length ∧ ∀ g ∈ a, g.l.length ≤ 30 := by
  refine ⟨by have := congrArg List.length h; simpa using this, fun g hg => ?_⟩
  have hm : g.bs ∈ b.map Pl.bs := by rw [← h]; exact List.mem_map_of_mem hg
  obtain ⟨x, hx, e⟩ := List.mem_map.1 hm
  have := hb x hx
  have e2 := congrArg List.length e
  simp only [Pl.bs, List.length_map] at e2
  omega
set_option maxRecDepth 100000 in
theorem same_way {w8 w7 : World} {Q2 : Nat → Prop} {oa da : Option Addr} {oc dc on dn : Nat} {ot t : List Pl} {F G : List (List UInt8)} (h : on = ot.length ∧ CQ w8 (fun k => w7.heap.size ≤ k) oa (ot.map GV) ∧ (∀ g ∈ ot, GQ w8 (fun k => w7.heap.size ≤ k) g) ∧ ot.map Pl.bs = F.map W.recs ∧ Adds w7 w8) (h2 : F = G) (hdn : dn = t.length) (hq : CQ w8 Q2 da (t.map GV)) (hg : ∀ g ∈ t, GQ w8 Q2 g) (hw : t.map Pl.bs = G.map W.recs) (ht : t.length ≤ 30) (hl : ∀ g ∈ t, g.l.length ≤ 30) : Calls Tryd.prog 21 #[.slice oa on oc, .slice da dn dc] w8 (Adding (.bool true) w8) := by
  have e : ot.map Pl.bs = t.map Pl.bs := by rw [h.2.2.2.1, h2, hw]
  obtain ⟨q1, q2⟩ := len_of e hl
  exact same_l h.1 hdn h.2.1 h.2.2.1 hq hg ⟨by have := h.1; omega, by omega⟩ ⟨fun g hg => by have := q2 g hg; omega, fun g hg => by have := hl g hg; omega⟩ (by simpa using e)
theorem bss_lit (w : World) : (w.alloc (.cells #[] 33)).ownsRow 0 33 1 (.slice (some ⟨w.heap.size, 0, none⟩) 0 0) 0 [] := World.ownsRow_lit (base := 0) (e := 33) (size := 1) w #[] 0 (Nat.zero_le _) (by decide) rfl
set_option maxRecDepth 100000 in
theorem bb_fin {w3 w4 : World} {o : Obj} {v4 : Value} {m : Nat} {xs : List Value} (h : Grew (w3.alloc o) w4 33 (.slice (some ⟨w3.heap.size, 0, none⟩) 0 0) v4 (0 + m) ([] ++ xs)) : w4.ownsRow 0 33 1 v4 m xs ∧ Adds w3 w4 ∧ ∀ j, v4.ownBlock = some j → w3.heap.size ≤ j := by
  refine ⟨by have q := h.1; rw [Nat.zero_add, List.nil_append] at q; exact q, ((Touch.refl _ w3).alloc _).then h.touch (fun k hk c => ?_), h.lt (by simp) (fun j hj => by cases hj; exact Nat.le_refl _)⟩
  simp [Value.ownBlock] at c
  omega
set_option maxRecDepth 100000 in
theorem bb_fin2 {w3 w4 w5 : World} {o : Obj} {v4 v5 : Value} {n : Nat} {xs : List Value} (hA : Adds w3 w4) (hN : ∀ j, v4.ownBlock = some j → w3.heap.size ≤ j) (h : Grew (w4.alloc o) w5 33 v4 v5 n xs) : ∃ na nc, v5 = .slice na n nc ∧ CQ w5 (fun k => w3.heap.size ≤ k) na xs ∧ Adds w3 w5 := by
  have s4 := hA.size
  have hA5 : Adds w3 w5 := (hA.alloc o).then h.touch (fun k hk c => by have := hN k c; omega)
  have hn5 := h.lt (B := w3.heap.size) (by simp; omega) hN
  obtain ⟨a, c, e, _, _, hq⟩ := own_cq h.1
  exact ⟨a, c, e, hq.mono (fun k _ q => hn5 k q), hA5⟩
set_option maxRecDepth 100000 in
theorem same_no8 {w8 w7 : World} {Q2 : Nat → Prop} {oa da ga : Option Addr} {oc dc gc on dn : Nat} {ot t : List Pl} {hs : List Part} {F G : List (List UInt8)} {R : List (List UInt8)} (h : on = ot.length ∧ CQ w8 (fun k => w7.heap.size ≤ k) oa (ot.map GV) ∧ (∀ g ∈ ot, GQ w8 (fun k => w7.heap.size ≤ k) g) ∧ ot.map Pl.bs = F.map W.recs ∧ Adds w7 w8) (h2 : F = G ++ [W.gbytes R] ∧ W.recs (W.gbytes R) = R) (hdn : dn = t.length) (hq : CQ w8 Q2 da (t.map GV)) (hg : ∀ g ∈ t, GQ w8 Q2 g) (hw : t.map Pl.bs = G.map W.recs) (hR : hs.map (·.bs) = R) (ht : t.length ≤ 30) (hh : hs.length ≤ 30) (hl : ∀ g ∈ t, g.l.length ≤ 30) :
    Calls Tryd.prog 21 #[.slice oa on oc, .slice da dn dc] w8 (Adding (.bool false) w8) ∧ ot.map Pl.bs = (t ++ [(⟨ga, gc, hs⟩ : Pl)]).map Pl.bs ∧ ∀ g ∈ t ++ [(⟨ga, gc, hs⟩ : Pl)], g.l.length ≤ 30 := by
  have e : ot.map Pl.bs = (t ++ [(⟨ga, gc, hs⟩ : Pl)]).map Pl.bs := by
    rw [h.2.2.2.1, h2.1, List.map_append, List.map_append, hw, List.map_cons, h2.2, ← hR]; rfl
  have hl2 : ∀ g ∈ t ++ [(⟨ga, gc, hs⟩ : Pl)], g.l.length ≤ 30 := fun g hg => by
    rcases List.mem_append.1 hg with q | q
    · exact hl g q
    · rw [List.mem_singleton.1 q]; exact hh
  obtain ⟨q1, q2⟩ := len_of e hl2
  rw [List.length_append] at q1
  refine ⟨same_l h.1 hdn h.2.1 h.2.2.1 hq hg ⟨by have := h.1; simp at q1; omega, by omega⟩ ⟨fun g hg => by have := q2 g hg; omega, fun g hg => by have := hl g hg; omega⟩ ?_, e, hl2⟩
  rw [decide_eq_false_iff_not]
  intro c
  have := congrArg List.length c
  simp at this q1
  omega
set_option maxRecDepth 100000 in
theorem same_fin {w : World} {Q1 Q2 Q3 : Nat → Prop} {oa na ga : Option Addr} {oc nc gc on dn m : Nat} {ot t : List Pl} {hs : List Part} (hn : on = ot.length) (hq1 : CQ w Q1 oa (ot.map GV)) (hg1 : ∀ g ∈ ot, GQ w Q1 g) (e : ot.map Pl.bs = (t ++ [(⟨ga, gc, hs⟩ : Pl)]).map Pl.bs) (hl : ∀ g ∈ t ++ [(⟨ga, gc, hs⟩ : Pl)], g.l.length ≤ 30) (hdn : dn = t.length) (hm : m = hs.length) (ht : t.length ≤ 30) (hq : CQ w Q2 na (t.map GV ++ [.slice ga m gc])) (hg : ∀ g ∈ t, GQ w Q3 g) (hx : GQ w Q3 ⟨ga, gc, hs⟩) : Calls Tryd.prog 21 #[.slice oa on oc, .slice na (dn + 1) nc] w (Adding (.bool true) w) := by
  obtain ⟨q1, q2⟩ := len_of e hl
  refine same_l (Q2 := fun _ => True) (t2 := t ++ [⟨ga, gc, hs⟩]) hn (by rw [hdn, List.length_append]; rfl) hq1 hg1 (by rw [List.map_append]; subst hm; exact hq.mono (fun _ _ _ => trivial)) (fun g hg' => ?_) ⟨by rw [hn, q1, List.length_append]; simp; omega, by omega⟩ ⟨fun g hg => by have := q2 g hg; omega, fun g hg => by have := hl g hg; omega⟩ (by simpa using e)
  rcases List.mem_append.1 hg' with q | q
  · exact (hg g q).mono (fun _ _ _ => trivial)
  · rw [List.mem_singleton.1 q]; exact hx.mono (fun _ _ _ => trivial)
end Go.Proofs.YtllkplanjfnnmaaDoor

/- WalLasts: append behind a guard that says yes. -/
namespace Go.Proofs.YtllkplanjfnnmaaDoor
open Go.RowKit
set_option maxRecDepth 100000 in
theorem append_g {w : World} {ops : Array Oper} {rest : List Oper} {o : Oper} {act : Act} {Q : Exit → Act → World → Prop} (hgw : Region.wanted o (yielded ops act.tmps) = true) (s x : Operand)
    (ho : o.op = .call { callee := .builtin .append, args := #[s, x], argTypes := #[41, 41] }) (v : Value) (n : Nat) (xs : List Value) (hs : act.eval s = v) (hown : w.ownsRow 0 33 1 v n xs)
    (ad : Addr) (m c : Nat) (news : List Value) (hx : act.eval x = .slice (some ad) m c) (hl : news.length = m) (hnews : ∀ j u, news[j]? = some u → w.cell? (ad.add j) = some u) (h1 : ∀ u ∈ news, u.oneCell' = true) (hlen : n + m ≤ 10000000)
    (h : ∀ v' w', Grew w w' 33 v v' (n + m) (xs ++ news) → wpList Tryd.prog ops Q rest (act.put o.dst v') w') : wpList Tryd.prog ops Q (o :: rest) act w := by
  obtain ⟨i0, hi, hz0, hz1, hz2⟩ := infoBB
  obtain ⟨v', w', hr, h2, h3, _, h5⟩ := run_append_own_at (P := Tryd.prog) w 0 41 o.type 33 i0 (.slice none 0 0) 1 24 Tryd.underlying41 hi hz0 hz1 hz2 rfl (by decide) v n xs hown ad m c news (by rw [Nat.mul_one]; exact hl) hnews h1 (by unfold maxLen; omega) (by omega) (Nat.zero_le _)
  refine wpList_step fun K hK => ?_
  rw [if_pos hgw]
  unfold Oper.wp execOp
  simp only [ho, resolve, invoke, builtin, Sem.run_bind, Sem.run_pure, Result.andThen_ok, List.map_toArray, List.map_cons, List.map_nil, hs, hx, hr]
  exact hK _ _ (h v' w' ⟨h2, h3, h5⟩)
set_option maxRecDepth 100000 in
theorem append_g0 {w : World} {ops : Array Oper} {rest : List Oper} {o : Oper} {act : Act} {Q : Exit → Act → World → Prop} (hgw : Region.wanted o (yielded ops act.tmps) = true) (s x : Operand)
    (ho : o.op = .call { callee := .builtin .append, args := #[s, x], argTypes := #[41, 41] }) (v : Value) (n : Nat) (xs : List Value) (hs : act.eval s = v) (hown : w.ownsRow 0 33 1 v n xs) (hx : act.eval x = .slice none 0 0)
    (h : wpList Tryd.prog ops Q rest (act.put o.dst v) w) : wpList Tryd.prog ops Q (o :: rest) act w := by
  obtain ⟨i0, hi, hz0, hz1, hz2⟩ := infoBB
  have hrun := run_append_owned_none (P := Tryd.prog) (w := w) 0 41 o.type 33 i0 1 Tryd.underlying41 hi v n xs hown
  refine wpList_step fun K hK => ?_
  rw [if_pos hgw]
  unfold Oper.wp
  simp [execOp, ho, resolve, invoke, builtin, hs, hx, hrun, Result.andThen]
  exact hK _ _ h
set_option maxRecDepth 100000 in
theorem append_bb1g {w : World} {ops : Array Oper} {rest : List Oper} {o : Oper} {act : Act} {Q : Exit → Act → World → Prop} (hgw : Region.wanted o (yielded ops act.tmps) = true) (s x : Operand)
    (ho : o.op = .call { callee := .builtin .append, args := #[s, x], argTypes := #[41, 41] }) (v : Value) (n : Nat) (xs : List Value) (hs : act.eval s = v) (hown : w.ownsRow 0 33 1 v n xs)
    (g : Nat) (u : Value) (hx : act.eval x = .slice (some ⟨g, 0, none⟩) 1 1) (hc : w.cell? ⟨g, 0, none⟩ = some u) (hu : u.oneCell' = true) (hlen : n ≤ 1000000)
    (h : ∀ v' w', Grew w w' 33 v v' (n + 1) (xs ++ [u]) → wpList Tryd.prog ops Q rest (act.put o.dst v') w') : wpList Tryd.prog ops Q (o :: rest) act w := by
  refine append_g hgw s x ho v n xs hs hown ⟨g, 0, none⟩ 1 1 [u] hx rfl ?_ (fun y hy => by rw [List.mem_singleton.1 hy]; exact hu) (by omega) h
  intro j y hj
  match j, hj with
  | 0, hj =>
    obtain rfl : u = y := by simpa using hj
    rw [Addr.add_mid]; exact hc
set_option maxRecDepth 100000 in
theorem append_bbmg {w : World} {ops : Array Oper} {rest : List Oper} {o : Oper} {act : Act} {Q : Exit → Act → World → Prop} {Q' : Nat → Prop} (hgw : Region.wanted o (yielded ops act.tmps) = true) (s x : Operand)
    (ho : o.op = .call { callee := .builtin .append, args := #[s, x], argTypes := #[41, 41] }) (v : Value) (n : Nat) (xs : List Value) (hs : act.eval s = v) (hown : w.ownsRow 0 33 1 v n xs)
    (a : Option Addr) (m cap : Nat) (news : List Value) (hm : news.length = m) (hx : act.eval x = .slice a m cap) (hcap : a = none → cap = 0) (hA : CQ w Q' a news) (h1 : ∀ u ∈ news, u.oneCell' = true) (hlen : n + m ≤ 10000000)
    (h : ∀ v' w', Grew w w' 33 v v' (n + m) (xs ++ news) → wpList Tryd.prog ops Q rest (act.put o.dst v') w') : wpList Tryd.prog ops Q (o :: rest) act w := by
  cases a with
  | none =>
    obtain rfl := hcap rfl
    obtain rfl : news = [] := by
      cases news with
      | nil => rfl
      | cons u l => obtain ⟨b, o', e, _⟩ := hA 0 u rfl; cases e
    obtain rfl : m = 0 := by rw [← hm]; rfl
    exact append_g0 hgw s x ho v n xs hs hown hx (h v w ⟨by simpa using hown, ⟨rfl, rfl, rfl, Nat.le_refl _, fun _ _ _ => rfl⟩, .inl rfl⟩)
  | some ad =>
    refine append_g hgw s x ho v n xs hs hown ad m cap news hx hm ?_ h1 hlen h
    intro j y hj
    obtain ⟨b, o', e, _, hc⟩ := hA j y hj
    obtain rfl : ad = ⟨b, o', none⟩ := by simpa using e
    rw [Addr.add_mid]; exact hc
end Go.Proofs.YtllkplanjfnnmaaDoor
