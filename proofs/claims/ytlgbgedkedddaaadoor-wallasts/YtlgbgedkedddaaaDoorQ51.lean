/- Texts put together: WLaCom, WLaRow. -/
import Derived.Test.YtlgbgedkedddaaaDoorQ50
import Derived.Test.YtlgbgedkedddaaaDoorQ46
/- WalLasts: a Commit, whatever way it ends. -/
namespace Go.Proofs.YtlgbgedkedddaaaDoor
open Go.RowKit
/-- A log of nine sectors in the epoch 2, and its disk, ahead of a cut. -/
structure Run (L : LS) (D : dSt) : Prop where
  two : Two L
  ok : L.Ok
  lst : Lst D.H L.G
  wait : D.W = []
  size : D.size = 10
set_option maxRecDepth 100000 in
theorem run_good {L : LS} {D : dSt} (h : Run L D) (hR : L.R ≠ []) : W.Good (W.gbytes L.R) ∧ W.usedOf L.G + W.secs (W.gbytes L.R).length ≤ 9 ∧ W.recs (W.gbytes L.R) = L.R := by
  have hw := h.ok.wt hR
  have hu := h.ok.us
  rw [h.two.ct] at hw hu
  have hl := secs_len hw
  have hr := W.recs_put L.R (by omega)
  exact ⟨⟨by omega, by rw [hr]; exact hR⟩, by omega, hr⟩
/-- What the disk has behind a Commit that was cut. -/
structure Cutd (L : LS) (D : dSt) : Prop where
  lst : Lst D.H L.G
  good : W.Good (W.gbytes L.R)
  room : W.usedOf L.G + W.secs (W.gbytes L.R).length ≤ 9
  recs : W.recs (W.gbytes L.R) = L.R
  size : D.size = 10
  wait : ∃ c, c ≤ W.secs (W.gbytes L.R).length ∧ D.W = (List.range c).map (fun j => fW 1 2 (W.usedOf L.G) (W.gbytes L.R) (0 + j))
set_option maxRecDepth 100000 in
theorem run_com {L : LS} {D : dSt} (h : Run L D) (hl : -1 ≤ D.left) : (L.R = [] ∧ comE L D = 0 ∧ comL L D = L ∧ comD L D = D) ∨ (L.R ≠ [] ∧ comE L D = 0 ∧ comL L D = { L with G := L.G ++ [W.gbytes L.R], R := [] } ∧ Run (comL L D) (comD L D)) ∨ (L.R ≠ [] ∧ comE L D = 10 ∧ Cutd L (comD L D)) := by
  have hc : ¬ L.cl = true := by rw [h.two.cl]; decide
  by_cases hR : L.R = []
  · exact .inl ⟨hR, by rw [comE, if_neg hc, if_pos hR], by rw [comL, if_neg hc, if_pos hR], by rw [comD, if_neg hc, if_pos hR]⟩
  · obtain ⟨hg, hu, hr⟩ := run_good h hR
    refine .inr ?_
    by_cases hn : D.left = -1 ∨ ((W.secs (W.gbytes L.R).length : Nat) : Int) < D.left
    · have e : comR L D = (0, (wroteN D (fW L.fr L.ep (W.usedOf L.G) (W.gbytes L.R)) 0 (W.secs (W.gbytes L.R).length)).synced) := goW_all hn
      have e1 : comE L D = 0 := by rw [comE, if_neg hc, if_neg hR, e]
      have e2 : comL L D = { L with G := L.G ++ [W.gbytes L.R], R := [] } := by rw [comL, if_neg hc, if_neg hR, e, if_pos rfl]
      refine .inl ⟨hR, e1, e2, ?_, h.ok.com D, ?_, ?_, ?_⟩
      · rw [e2]; exact ⟨h.two.fr, h.two.ct, h.two.ep, h.two.cl⟩
      · rw [e2, comD, if_neg hc, if_neg hR, e]
        show Lst (syncH (wroteN D _ 0 _).H (wroteN D _ 0 _).W) _
        rw [wroteN_H, wroteN_W, h.wait, List.nil_append, h.two.fr, h.two.ep]
        exact h.lst.more hg hu
      · rw [comD, if_neg hc, if_neg hR, e]; rfl
      · rw [comD, if_neg hc, if_neg hR, e]
        show (wroteN D _ 0 _).size = _
        rw [wroteN_size]; exact h.size
    · have e : comR L D = (10, wroteN D (fW L.fr L.ep (W.usedOf L.G) (W.gbytes L.R)) 0 D.left.toNat) := goW_cut (by omega) (by omega)
      refine .inr ⟨hR, by rw [comE, if_neg hc, if_neg hR, e], ?_⟩
      rw [comD, if_neg hc, if_neg hR, e]
      refine ⟨by rw [wroteN_H]; exact h.lst, hg, hu, hr, by rw [wroteN_size]; exact h.size, D.left.toNat, by omega, ?_⟩
      rw [wroteN_W, h.wait, List.nil_append, h.two.fr, h.two.ep]
/-- What a log that is opened behind a loss has. -/
structure Ends (ks : List Bool) (tn at_ : Int) (G : List (List UInt8)) (R : List (List UInt8)) (D : dSt) : Prop where
  two : (W.find 2 (secOf (D.lost ks tn at_) 1) 9 0 [] [] 0).1 = G ∨ ((W.find 2 (secOf (D.lost ks tn at_) 1) 9 0 [] [] 0).1 = G ++ [W.gbytes R] ∧ W.recs (W.gbytes R) = R)
  three : (W.find 3 (secOf (D.lost ks tn at_) 1) 9 0 [] [] 0).1 = []
set_option maxRecDepth 100000 in
theorem Run.ends {L : LS} {D : dSt} (h : Run L D) (ks : List Bool) (tn at_ : Int) : Ends ks tn at_ L.G L.R D := by
  obtain ⟨h1, h2⟩ := lost_none (ks := ks) (tn := tn) (at_ := at_) h.lst h.wait
  exact ⟨.inl h1, h2⟩
set_option maxRecDepth 100000 in
theorem Cutd.ends {L : LS} {D : dSt} (h : Cutd L D) (ks : List Bool) (tn at_ : Int) (hat : 0 ≤ tn ∧ tn < D.W.length → 0 ≤ at_ ∧ at_ ≤ 256) : Ends ks tn at_ L.G L.R D := by
  obtain ⟨c, hc, hW⟩ := h.wait
  have hl : D.W.length = c := by rw [hW]; simp
  rw [hl] at hat
  obtain ⟨h1, h2⟩ := lost_find (ks := ks) (tn := tn) (at_ := at_) h.lst h.good h.room hc hW hat
  refine ⟨?_, h2⟩
  rcases h1 with q | q
  · exact .inl q
  · exact .inr ⟨q, h.recs⟩
theorem run_new : Run ⟨1, 9, 2, false, [], []⟩ (dSt.new 10) :=
  ⟨⟨rfl, rfl, rfl, rfl⟩, ⟨by show 1 ≤ 4096; decide, by show 9 ≤ 10000; decide, by show 2 ≤ 1000000000; decide, Nat.zero_le _, fun c => absurd rfl c, fun g hg => (by cases hg)⟩, ⟨trivial, fun _ _ _ => rfl, Nat.zero_le _, fun g hg => (by cases hg)⟩, rfl, rfl⟩
theorem Run.cut {L : LS} {D : dSt} (h : Run L D) (n : Int) : Run L (D.cut n) := ⟨h.two, h.ok, h.lst, h.wait, h.size⟩
set_option maxRecDepth 100000 in
theorem Run.app {L : LS} {D : dSt} (h : Run L D) (bs : List UInt8) : Run (appL L bs) D := by
  have hG : (appL L bs).G = L.G := by unfold appL; split <;> rfl
  exact ⟨h.two.app bs, h.ok.app bs, by rw [hG]; exact h.lst, h.wait, h.size⟩
end Go.Proofs.YtlgbgedkedddaaaDoor

/- WalLasts: a law's list of groups and its list of records, both grown in place, beside a log. -/
namespace Go.Proofs.YtlgbgedkedddaaaDoor
open Go.RowKit
/-- vd: the groups that are done, vg: the records of the group under way. -/
structure DG (N : Nat → Prop) (w : World) (vd vg : Value) (t : List Pl) (hs : List Part) : Prop where
  rows : w.ownsRow 0 33 1 vd t.length (t.map GV)
  own : ∀ k, vd.ownBlock = some k → N k ∧ k < w.heap.size
  data : ∀ g ∈ t, GQ w (fun k => N k ∧ vd.ownBlock ≠ some k ∧ vg.ownBlock ≠ some k) g
  grp : Gr (fun k => N k ∧ vd.ownBlock ≠ some k) w vg hs
theorem DG.nil (N : Nat → Prop) (w : World) : DG N w (.slice none 0 0) (.slice none 0 0) [] [] := ⟨World.ownsRow_nil _ _ _ _, fun _ hk => (by cases hk), fun _ hx => (by cases hx), Gr.nil _ _⟩
set_option maxRecDepth 100000 in
theorem DG.next {N N' T : Nat → Prop} {w w' : World} {vd vg : Value} {t : List Pl} {hs : List Part} (h : DG N w vd vg t hs) (hT : Touch T w w') (hn : ∀ k, N k → ¬ T k) (hN : ∀ k, k < w.heap.size → N k → N' k) : DG N' w' vd vg t hs := by
  refine ⟨row_touch h.rows hT (fun k hk => hn k (h.own k hk).1), fun k hk => ⟨hN k (h.own k hk).2 (h.own k hk).1, Nat.lt_of_lt_of_le (h.own k hk).2 hT.size⟩, fun x hx => ?_, h.grp.next hT (fun k q => hn k q.1) (fun k hk q => ⟨hN k hk q.1, q.2⟩)⟩
  have q := (h.data x hx).mono (Q' := fun k => N k ∧ N' k ∧ vd.ownBlock ≠ some k ∧ vg.ownBlock ≠ some k) (fun k hk q => ⟨q.1, hN k hk q.1, q.2⟩)
  exact (q.touch hT (fun k q => hn k q.1)).mono (fun k _ q => q.2)
theorem DG.adds {N : Nat → Prop} {w w' : World} {vd vg : Value} {t : List Pl} {hs : List Part} (h : DG N w vd vg t hs) (hA : Adds w w') : DG N w' vd vg t hs := h.next hA (fun _ _ => id) (fun _ _ q => q)
theorem DG.call {w0 w w' : World} {OL OD OL' OD' : Nat → Prop} {vd vg : Value} {t : List Pl} {hs : List Part} (h : DG (Nw w0 OL OD) w vd vg t hs) (hT : Touch (fun k => OL k ∨ OD k) w w') (hn : ∀ k, OL' k ∨ OD' k → (OL k ∨ OD k) ∨ w.heap.size ≤ k) : DG (Nw w0 OL' OD') w' vd vg t hs :=
  h.next hT (fun k q => q.2) (fun k hk q => ⟨q.1, fun c => by rcases hn k c with c | c; exact q.2 c; omega⟩)
set_option maxRecDepth 100000 in
/-- A record more. -/
theorem DG.more {N : Nat → Prop} {w w1 w2 : World} {vd vg vg' : Value} {t : List Pl} {hs : List Part} {x : Part} (h : DG N w vd vg t hs) (hA : Adds w w1) (hG : Grew w1 w2 22 vg vg' (hs.length + 1) (hs.map PV ++ [PV x])) (hN : ∀ k, w.heap.size ≤ k → N k) (hx : PQ w1 (fun k => (N k ∧ vd.ownBlock ≠ some k) ∧ vg.ownBlock ≠ some k) x) : DG N w2 vd vg' t (hs ++ [x]) := by
  have hw := hA.size
  have hw2 := hG.touch.size
  have hvd : ∀ k, w.heap.size ≤ k → vd.ownBlock ≠ some k := fun k hk c => by have := (h.own k c).2; omega
  refine ⟨row_touch (row_touch h.rows hA (fun _ _ => id)) hG.touch (fun k hk c => (h.grp.own k c).1.2 hk), fun k hk => ⟨(h.own k hk).1, by have := (h.own k hk).2; omega⟩, fun y hy => ?_, h.grp.more hA hG (fun k hk => ⟨hN k hk, hvd k hk⟩) hx⟩
  have q := ((h.data y hy).mono (Q' := fun k => (N k ∧ vd.ownBlock ≠ some k ∧ vg.ownBlock ≠ some k) ∧ vg'.ownBlock ≠ some k) (fun k hk q => ⟨q, fun c => by
    rcases hG.2.2 with e | e
    · exact q.2.2 (by rw [← e]; exact c)
    · rw [e] at c; cases c; omega⟩)).adds hA
  exact (q.touch hG.touch (fun k q => q.1.2.2)).mono (fun k _ q => ⟨q.1.1, q.1.2.1, q.2⟩)
set_option maxRecDepth 100000 in
/-- The group is done. -/
theorem DG.done {N : Nat → Prop} {w w1 w2 : World} {vd vd' : Value} {t : List Pl} {hs : List Part} {a : Option Addr} {c : Nat} (h : DG N w vd (.slice a hs.length c) t hs) (hq : GQ w (fun k => N k ∧ vd.ownBlock ≠ some k) ⟨a, c, hs⟩) (hA : Adds w w1) (hG : Grew w1 w2 33 vd vd' (t.length + 1) (t.map GV ++ [GV ⟨a, c, hs⟩])) (hN : ∀ k, w.heap.size ≤ k → N k) : DG N w2 vd' (.slice none 0 0) (t ++ [⟨a, c, hs⟩]) [] := by
  have hw := hA.size
  have hw2 := hG.touch.size
  have hlt : ∀ k, k < w.heap.size → vd.ownBlock ≠ some k → vd'.ownBlock ≠ some k := fun k hk hn c => by
    rcases hG.2.2 with e | e
    · exact hn (by rw [← e]; exact c)
    · rw [e] at c; cases c; omega
  have all : ∀ y ∈ t ++ [⟨a, c, hs⟩], GQ w (fun k => N k ∧ vd.ownBlock ≠ some k) y := fun y hy => by
    rcases List.mem_append.1 hy with hy | hy
    · exact (h.data y hy).mono (fun k _ q => ⟨q.1, q.2.1⟩)
    · rw [List.mem_singleton.1 hy]; exact hq
  refine ⟨by rw [List.length_append, List.map_append]; exact hG.1, fun k hk => ⟨?_, ?_⟩, fun y hy => ?_, Gr.nil _ _⟩
  · rcases hG.2.2 with e | e
    · exact (h.own k (by rw [← e]; exact hk)).1
    · rw [e] at hk; cases hk; exact hN _ hw
  · obtain ⟨a', c', e, _, hac, hq'⟩ := own_cq hG.1
    obtain ⟨b, o, _, hb, hc⟩ := hq' t.length (GV ⟨a, c, hs⟩) (by rw [List.getElem?_append_right (by simp)]; simp)
    rw [hk] at hb
    cases hb
    exact World.block_lt_of_cell? w2 _ hc
  · have q := ((all y hy).mono (Q' := fun k => (N k ∧ vd.ownBlock ≠ some k) ∧ vd'.ownBlock ≠ some k) (fun k hk q => ⟨q, hlt k hk q.2⟩)).adds hA
    exact (q.touch hG.touch (fun k q => q.1.2)).mono (fun k _ q => ⟨q.1.1, q.2, fun c => by cases c⟩)
/-- No group under way. -/
theorem DG.drop {N : Nat → Prop} {w : World} {vd vg : Value} {t : List Pl} {hs : List Part} (h : DG N w vd vg t hs) : DG N w vd (.slice none 0 0) t [] :=
  ⟨h.rows, h.own, fun y hy => (h.data y hy).mono (fun k _ q => ⟨q.1, q.2.1, fun c => by cases c⟩), Gr.nil _ _⟩
set_option maxRecDepth 100000 in
/-- Where they lie. -/
theorem DG.pl {N : Nat → Prop} {w : World} {vd vg : Value} {t : List Pl} {hs : List Part} (h : DG N w vd vg t hs) : ∃ a c ga gc, vd = .slice a t.length c ∧ vg = .slice ga hs.length gc ∧ (a = none → c = 0) ∧ CQ w N a (t.map GV) ∧ (∀ g ∈ t, GQ w N g) ∧ GQ w (fun k => N k ∧ vd.ownBlock ≠ some k) ⟨ga, gc, hs⟩ := by
  obtain ⟨a, c, e, _, h2, h3⟩ := own_cq h.rows
  obtain ⟨ga, gc, e', hq⟩ := h.grp.pl
  exact ⟨a, c, ga, gc, e, e', h2, h3.mono (fun k _ q => (h.own k q).1), fun g hg => (h.data g hg).mono (fun _ _ q => q.1), hq⟩
end Go.Proofs.YtlgbgedkedddaaaDoor
