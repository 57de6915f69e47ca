/- Texts put together: WGroups, WCom. -/
import Derived.Test.YtllkplanjfnnmaaGreatDoorQ19
import Derived.Test.YtllkplanjfnnmaaGreatDoorQ21
import Derived.Test.YtllkplanjfnnmaaGreatDoorQ22
/- What a log tells of its groups. -/
namespace Go.Proofs.YtllkplanjfnnmaaGreatDoor
open Go.RowKit

/-- A list of lists of slices in new memory. -/
structure FreshT (B : Nat) (w : World) (v : Value) (t : List Pl) : Prop where
  rows : w.ownsRow 0 61 1 v t.length (t.map GV)
  own : ∀ k, v.ownBlock = some k → B ≤ k
  data : ∀ g ∈ t, GQ w (fun k => B ≤ k ∧ v.ownBlock ≠ some k) g
theorem FreshT.touch {B : Nat} {w w' : World} {T : Nat → Prop} {v : Value} {t : List Pl} (h : FreshT B w v t) (hT : Touch T w w') (hn : ∀ k, B ≤ k → ¬ T k) : FreshT B w' v t :=
  ⟨row_touch h.rows hT (fun k hk => hn k (h.own k hk)), h.own, fun x hx => (h.data x hx).touch hT (fun k q => hn k q.1)⟩
theorem FreshT.adds {B : Nat} {w w' : World} {v : Value} {t : List Pl} (h : FreshT B w v t) (hT : Adds w w') : FreshT B w' v t := h.touch hT (fun _ _ => id)
set_option maxRecDepth 100000 in
/-- One more. -/
theorem FreshT.more {B : Nat} {w w1 w2 : World} {v v' : Value} {t : List Pl} {x : Pl} (h : FreshT B w v t) (hA : Adds w w1) (hG : Grew w1 w2 61 v v' (t.length + 1) (t.map GV ++ [GV x])) (hB : B ≤ w.heap.size) (hx : GQ w1 (fun k => B ≤ k ∧ v.ownBlock ≠ some k) x) : FreshT B w2 v' (t ++ [x]) := by
  have hw := hA.size
  have hlt : ∀ k, k < w1.heap.size → v.ownBlock ≠ some k → v'.ownBlock ≠ some k := fun k hk hn c => by
    rcases hG.2.2 with e | e
    · exact hn (by rw [← e]; exact c)
    · rw [e] at c; cases c; omega
  refine ⟨by rw [List.length_append, List.map_append]; exact hG.1, hG.lt (by omega) h.own, fun y hy => ?_⟩
  rcases List.mem_append.1 hy with hy | hy
  · have q := ((h.data y hy).adds hA).mono (Q' := fun k => B ≤ k ∧ v.ownBlock ≠ some k ∧ v'.ownBlock ≠ some k) (fun k hk q => ⟨q.1, q.2, hlt k hk q.2⟩)
    exact (q.touch hG.touch (fun k q => q.2.1)).mono (fun _ _ q => ⟨q.1, q.2.2⟩)
  · obtain rfl := List.mem_singleton.1 hy
    have q := hx.mono (Q' := fun k => B ≤ k ∧ v.ownBlock ≠ some k ∧ v'.ownBlock ≠ some k) (fun k hk q => ⟨q.1, q.2, hlt k hk q.2⟩)
    exact (q.touch hG.touch (fun k q => q.2.1)).mono (fun _ _ q => ⟨q.1, q.2.2⟩)
set_option maxRecDepth 100000 in
/-- A list that was made. -/
theorem Fresh.pl {B : Nat} {w : World} {v : Value} {hs : List Part} (h : Fresh B w v hs) : ∃ a c, v = .slice a hs.length c ∧ GQ w (fun k => B ≤ k) ⟨a, c, hs⟩ := by
  obtain ⟨a, c, e, h1, h2, h3⟩ := own_cq h.rows
  exact ⟨a, c, e, ⟨h3.mono (fun k _ q => h.own k q), h2, fun x hx => (h.data x hx).mono (fun _ _ q => q.1)⟩⟩
def PGroups (w : World) (gs : List (List (List UInt8))) (e : Ending) (w' : World) : Prop := ∃ v t, e = .returned v ∧ Hid (FreshT w.heap.size w' v t ∧ t.map Pl.bs = gs ∧ Adds w w')

set_option maxRecDepth 100000 in
theorem groups_nil (w : World) : Calls Tryz.prog 17 #[.pointer none] w (Tells (.slice none 0 0) w) := by
  go_enter Tryz.func17, Tryz.ntmps17
  go_wp2
  go_ret
  exact ⟨rfl, rfl⟩

set_option maxRecDepth 100000 in
set_option maxHeartbeats 2000000 in
theorem lgroups_any {w : World} {O : Nat → Prop} {l p : Nat} {L : LS} (h : IsLog w O l p L) (hb : ∀ g ∈ L.G, g.length ≤ 1000000) (hn : L.G.length ≤ 10000) : Calls Tryz.prog 17 #[Ptr l] w (PGroups w (L.G.map W.recs)) := by
  obtain ⟨gv, tv, hs, h⟩ := h
  obtain ⟨ga, gc, hgv, hgc, hga, hgq⟩ := own_cq h.rows
  subst hgv
  obtain ⟨n, hnl⟩ : ∃ n, n = hs.length := ⟨_, rfl⟩
  have hn2 : n ≤ 10000 := by rw [hnl, show hs.length = L.G.length by rw [← h.bytes, List.length_map]]; exact hn
  have c5 : w.cell? ⟨l, 5, none⟩ = some (.slice ga n gc) := by rw [hnl]; exact cellOf h.box 5
  obtain ⟨i3, hi3, hz0, hz1, hz2⟩ := infoBB
  have B2 := hid (show i3.bytes * n ≤ 281474976710656 by rw [hz2]; omega)
  have B3 := hid (show n ≤ maxLen by unfold maxLen; omega)
  have HKE := hid (show ∀ w', w.grownBy w' none → w'.cell? ⟨l, 5, none⟩ = some (.slice ga n gc) ∧ Adds w w' from fun w' hg =>
    have hA : Adds w w' := Touch.grown (Touch.refl _ w) hg (fun k hk _ => by cases hk)
    ⟨below_adds hA c5, hA⟩)
  have HD := hid (show ∀ k (hk : k < n), ∃ x, hs[k]? = some x ∧ x.bs.length ≤ 1000000 ∧ PQ w (fun _ => True) x ∧ ∃ b o, ga = some ⟨b, o, none⟩ ∧ w.cell? ⟨b, o + k, none⟩ = some (.slice x.a x.bs.length x.cap) from fun k hk => by
    have hx : hs[k]? = some (hs[k]'(by omega)) := List.getElem?_eq_getElem (by omega)
    obtain ⟨b, o, e, _, hc⟩ := hgq k (PV (hs[k]'(by omega))) (by rw [List.getElem?_map, hx]; rfl)
    have hm : (hs[k]'(by omega)) ∈ hs := List.getElem_mem _
    exact ⟨_, hx, hb _ (by rw [← h.bytes]; exact List.mem_map_of_mem hm), (h.data _ hm).mono (fun _ _ _ => trivial), b, o, e, hc⟩)
  have HB := hid (show L.G.map W.recs = (hs.map (·.bs)).map W.recs by rw [h.bytes])
  have HL := hid hnl
  have HR := hid (fun (wr : World) (x : Part) (hl : x.bs.length ≤ 1000000) (hx : PQ wr (fun _ => True) x) => records_any x.a x.bs x.bs.length x.cap rfl wr hl hx.non hx.at_.at)
  clear hb hgq hga hgc h hnl hn
  go_enter Tryz.func17, Tryz.ntmps17
  go_wp2_with (first
    | (at_make; refine wpList_make_own _ rfl _ _ 59 rfl 0 61 i3 (.slice none 0 0) 1 Tryz.underlying59 hi3 hz0 hz1 .i64 .i64 _ n rfl rfl rfl B2.out B3.out (Nat.zero_le _) ?_; intro w2 hown2 hg2; obtain ⟨c5', hA2⟩ := HKE.out w2 hg2
       have H2 := hid (And.intro hown2 hA2); clear hown2 hA2))
  go_loopw [3, 19] (fun v i wr => ∃ (k : Nat) (t : List Pl), k ≤ n ∧ i = .int .i64 (k : Int) ∧ t.length = k ∧ Hid (FreshT w.heap.size wr v t ∧ t.map Pl.bs = ((hs.map (·.bs)).map W.recs).take k ∧ Adds w wr)) (fun _ i _ => n - (intOf i).toNat)
  case atStart => exact ⟨0, [], Nat.zero_le _, rfl, rfl, ⟨H2.out.1, fun k hk => by cases hk; exact Nat.le_refl _, fun _ hx => (by cases hx)⟩, rfl, H2.out.2⟩
  case round =>
    obtain ⟨k, t, hk, rfl, hlen, HI⟩ := hrel
    by_cases hlt : k < n
    · obtain ⟨x, hx, hxl, hxq, b, o, rfl, hxc⟩ := HD.out k hlt
      have hc : wr.cell? ⟨b, o + k, none⟩ = some (.slice x.a x.bs.length x.cap) := below_adds HI.out.2.2 hxc
      have HX := hid (HR.out wr x hxl (hxq.adds HI.out.2.2))
      have HN := hid (And.intro hx hlen)
      clear hx hxl hxq hxc HD hlen
      go_wp2_with (first
        | (go_at_call 46; refine HX.out.mono ?_; rintro e w3 ⟨v3, hs3, rfl, H3⟩
           obtain ⟨a3, c3, hv3, hq3⟩ := H3.out.1.pl
           subst hv3
           have HA3 := hid (show (w3.alloc (.cells #[.slice a3 hs3.length c3] 61)).ownsRow 0 61 1 u3 k (t.map GV) by have q := row_touch HI.out.1.rows (H3.out.2.2.alloc (.cells #[.slice a3 hs3.length c3] 61)) (fun _ _ => id); rw [HN.out.2] at q; exact q)
           have HA4 := hid (show (w3.alloc (.cells #[.slice a3 hs3.length c3] 61)).cell? ⟨w3.heap.size, 0, none⟩ = some (.slice a3 hs3.length c3) from cellOf (heap_alloc_new w3 _) 0)
           have HQ3 := hid hq3
           clear hq3)
        | (at_builtin; refine append_bb1 rfl _ _ rfl u3 k (t.map GV) rfl HA3.out w3.heap.size (.slice a3 hs3.length c3) rfl HA4.out rfl (by omega) ?_; intro v5 w5 G5; have HG := hid G5; clear G5))
      go_roundw
      case rel =>
        have hAy : Adds wr (w3.alloc (.cells #[.slice a3 hs3.length c3] 61)) := H3.out.2.2.alloc _
        have hws := HI.out.2.2.size
        refine ⟨k + 1, t ++ [⟨a3, c3, hs3⟩], by omega, by go_num, by simp [HN.out.2], ?_, ?_, ?_⟩
        · refine HI.out.1.more hAy (by rw [HN.out.2]; exact HG.out) hws ?_
          exact (HQ3.out.adds ((Touch.refl _ w3).alloc _)).mono (fun j _ q => ⟨by omega, fun c => by have := (row_low HI.out.1.rows c).2; omega⟩)
        · rw [List.map_append, HI.out.2.1, List.take_add_one, List.getElem?_map, List.getElem?_map, HN.out.1]
          simp only [Option.map_some, Option.toList_some, List.map_cons, List.map_nil]
          rw [← H3.out.2.1]; rfl
        · exact (HI.out.2.2.trans hAy).then HG.out.touch (fun j hj c => by have := HI.out.1.own j c; omega)
      case measure => simp [intOf]; omega
    · obtain rfl : k = n := by omega
      clear hlen
      go_wp2_with fail
      go_ret
      refine ⟨_, t, rfl, HI.out.1, ?_, HI.out.2.2⟩
      rw [HI.out.2.1, HB.out, List.take_of_length_le (by rw [List.length_map, List.length_map, ← HL.out]; exact Nat.le_refl _)]
end Go.Proofs.YtllkplanjfnnmaaGreatDoor

/- Commit. -/
namespace Go.Proofs.YtllkplanjfnnmaaGreatDoor
open Go.RowKit

set_option maxRecDepth 100000 in
theorem commit_nil (w : World) : Calls Tryz.prog 16 #[.pointer none] w (Tells (.int .i64 1) w) := by
  have H := hid (lmade_nil w)
  go_enter Tryz.func16, Tryz.ntmps16
  go_wp2_with (first | (go_at_call 38; refine H.out.mono ?_; rintro e _ ⟨rfl, hw⟩; rw [hw]; clear hw))
  go_ret
  exact ⟨rfl, rfl⟩
set_option maxRecDepth 100000 in
theorem commit_zero (l : Nat) (w : World) (c0 : w.cell? ⟨l, 0, none⟩ = some (.pointer none)) : Calls Tryz.prog 16 #[Ptr l] w (Tells (.int .i64 1) w) := by
  have H := hid (lmade_zero l w c0)
  go_enter Tryz.func16, Tryz.ntmps16
  go_wp2_with (first | (go_at_call 38; refine H.out.mono ?_; rintro e _ ⟨rfl, hw⟩; rw [hw]; clear hw))
  go_ret
  exact ⟨rfl, rfl⟩
set_option maxRecDepth 100000 in
theorem commit_closed (l p : Nat) (w : World) (c0 : w.cell? ⟨l, 0, none⟩ = some (Ptr p)) (c4 : w.cell? ⟨l, 4, none⟩ = some (.bool true)) : Calls Tryz.prog 16 #[Ptr l] w (Tells (.int .i64 42) w) := by
  have H := hid (lmade_yes l p w c0)
  go_enter Tryz.func16, Tryz.ntmps16
  go_wp2_with (first | (go_at_call 38; refine H.out.mono ?_; rintro e _ ⟨rfl, hw⟩; rw [hw]; clear hw))
  go_ret
  exact ⟨rfl, rfl⟩
set_option maxRecDepth 100000 in
theorem commit_none (l p : Nat) (w : World) (c0 : w.cell? ⟨l, 0, none⟩ = some (Ptr p)) (c4 : w.cell? ⟨l, 4, none⟩ = some (.bool false)) (c7 : w.cell? ⟨l, 7, none⟩ = some (.int .i64 0)) : Calls Tryz.prog 16 #[Ptr l] w (Tells (.int .i64 0) w) := by
  have H := hid (lmade_yes l p w c0)
  go_enter Tryz.func16, Tryz.ntmps16
  go_wp2_with (first | (go_at_call 38; refine H.out.mono ?_; rintro e _ ⟨rfl, hw⟩; rw [hw]; clear hw))
  go_ret
  exact ⟨rfl, rfl⟩
set_option maxRecDepth 100000 in
/-- One more group. -/
theorem com_mem {w w7 w8 w9 : World} {OL : Nat → Prop} {l p : Nat} {gv tv gv' : Value} {hs : List Part} {L L' : LS} {x : Part} (h : IsLogV w OL l p gv tv hs L) (hA : Adds w w7) (hG : Grew w7 w8 56 gv gv' (hs.length + 1) (hs.map PV ++ [PV x]))
    (hx : PQ w (fun k => k ≠ l ∧ gv.ownBlock ≠ some k ∧ tv.ownBlock ≠ some k ∧ ∃ o, x.a = some ⟨k, o, none⟩) x) (hT : Touch (fun k => k = l) w8 w9) (hb : w9.heap[l]? = some (LBox p L' gv' tv)) (hR : L'.R = L.R) (hG' : L'.G = L.G ++ [x.bs]) :
    IsLogV w9 (fun k => OL k ∨ (∃ o, x.a = some ⟨k, o, none⟩) ∨ gv'.ownBlock = some k) l p gv' tv (hs ++ [x]) L' := by
  have hw := hA.size
  have hlt : ∀ k, k < w.heap.size → gv.ownBlock ≠ some k → gv'.ownBlock ≠ some k := fun k hk hn c => by
    rcases hG.2.2 with e | e
    · exact hn (by rw [← e]; exact c)
    · rw [e] at c; cases c; omega
  have hn := h.ne
  have h8 : w8.heap[l]? = some (LBox p L gv tv) := hG.touch.at' (hA.at' h.box id) hn.1
  refine ⟨hb, ?_, fun y hy => ?_, by rw [List.map_append, h.bytes, hG']; rfl, ?_, .inl h.ol, fun k hk => .inr (.inr hk), fun k hk => .inl (h.ot k hk)⟩
  · rw [List.length_append, List.map_append]
    refine row_touch (T := fun k => k = l) hG.1 hT (fun k hk e => ?_)
    obtain ⟨c, hc⟩ := row_type hG.1 hk
    exact type_ne hc h8 (by decide) e
  · rcases List.mem_append.1 hy with hy | hy
    · have q := (h.data y hy).mono (Q' := fun k => DQ OL l gv tv k ∧ gv'.ownBlock ≠ some k) (fun k hk q => ⟨q, hlt k hk q.2.2.1⟩)
      exact (((q.adds hA).touch hG.touch (fun k q => q.1.2.2.1)).touch hT (fun k q => q.1.2.1)).mono (fun k _ q => ⟨.inl q.1.1, q.1.2.1, q.2, q.1.2.2.2⟩)
    · obtain rfl := List.mem_singleton.1 hy
      have q := hx.mono (Q' := fun k => (k ≠ l ∧ gv.ownBlock ≠ some k ∧ tv.ownBlock ≠ some k ∧ ∃ o, y.a = some ⟨k, o, none⟩) ∧ gv'.ownBlock ≠ some k) (fun k hk q => ⟨q, hlt k hk q.2.1⟩)
      exact (((q.adds hA).touch hG.touch (fun k q => q.1.2.1)).touch hT (fun k q => q.1.1)).mono (fun k _ q => ⟨.inr (.inl q.1.2.2.2), q.1.1, q.2, q.1.2.2.1⟩)
  · rw [hR]
    refine row_touch (row_touch (row_touch h.texts hA (fun _ _ => id)) hG.touch (fun k hk c => hn.2.2 k c hk)) hT (fun k hk e => hn.2.1 (by rw [hk]; exact congrArg some e))
/-- What Commit leaves. -/
def PCom (w : World) (OL OD : Nat → Prop) (l p : Nat) (L : LS) (D : dSt) (z : Int) (e : Ending) (w' : World) : Prop := e = .returned (.int .i64 z) ∧ ∃ OL' OD', IsLog w' OL' l p L ∧ IsDO w' OD' p D ∧ (∀ k, OL' k → ¬ OD' k) ∧ Touch (fun k => OL k ∨ OD k) w w' ∧ ∀ k, OL' k ∨ OD' k → (OL k ∨ OD k) ∨ (w.heap.size ≤ k ∧ k < w'.heap.size)
set_option maxRecDepth 100000 in
theorem com_at {w w3 w4 : World} {B l gb n gc : Nat} {g : List UInt8} (ho : w3.ownsRow B 5 1 (.slice (some ⟨gb, 0, none⟩) n gc) n (S g)) (hb : B ≤ gb) (hB : w.heap.size ≤ B) (hl : l < w.heap.size) (h4 : Touch (fun k => k = l) w3 w4) : At w4 (some ⟨gb, 0, none⟩) g :=
  (At.own ho).block (fun b o e hb' => by
    obtain rfl : gb = b := by simpa using congrArg (fun x => x.map Addr.block) e
    exact h4.block gb hb' (fun c => by omega))
theorem com_disk {w w3 w4 w5 : World} {OL OD : Nat → Prop} {l p : Nat} {gv tv : Value} {hs : List Part} {L : LS} {D : dSt} {X : Prop} (h : IsLogV w OL l p gv tv hs L ∧ IsDO w OD p D ∧ (∀ k, OL k → ¬ OD k) ∧ X) (h3 : Adds w w3) (h4 : Touch (fun k => k = l) w3 w4) (h5 : Adds w4 w5) : IsDO w5 OD p D :=
  ((h.2.1.adds h3).touch h4 (fun k q c => by subst c; exact h.2.2.1 k h.1.ol q)).adds h5
set_option maxRecDepth 100000 in
theorem com_tab {w w3 w4 w5 : World} {l p : Nat} (hT : Tab w) (h3 : Adds w w3) (h4 : Touch (fun k => k = l) w3 w4) (h5 : Adds w4 w5) (c0 : w.cell? ⟨l, 0, none⟩ = some (Ptr p)) : Tab w5 := by
  have hne : (0 : Nat) ≠ l := fun e => by
    have q := hT 0 (by decide)
    rw [← e] at c0
    rw [c0] at q
    cases q
  intro j hj
  have q := below_adds h3 (hT j hj)
  have q4 : w4.cell? ⟨0, j, none⟩ = some (.int .u32 ((C.tab.getD j 0 : Nat) : Int)) := by rw [World.cell?_of_block (w := w3) (h4.block 0 (World.block_lt_of_cell? w3 _ q) hne)]; exact q
  exact below_adds h5 q4
set_option maxRecDepth 100000 in
theorem com_touch {w w3 w4 w5 w6 : World} {OL OD OD6 : Nat → Prop} {l : Nat} (ol : OL l) (hlt : ∀ k, OL k ∨ OD k → k < w.heap.size) (h3 : Adds w w3) (h4 : Touch (fun k => k = l) w3 w4) (h5 : Adds w4 w5) (h6 : Touch OD w5 w6) (ho : ∀ k, OD6 k → OD k ∨ (w5.heap.size ≤ k ∧ k < w6.heap.size)) :
    Touch (fun k => OL k ∨ OD k) w w6 ∧ (∀ k, OD6 k → OD k ∨ (w.heap.size ≤ k ∧ k < w6.heap.size)) ∧ ∀ k, OL k → ¬ OD k → ¬ OD6 k := by
  have s3 := h3.size
  have s4 := h4.size
  have s5 := h5.size
  refine ⟨?_, fun k hk => ?_, fun k hl hd c => ?_⟩
  · refine (((h3.mono (fun _ _ c => c.elim)).trans (h4.mono (fun k _ c => by subst c; exact .inl ol))).trans (h5.mono (fun _ _ c => c.elim))).trans (h6.mono (fun k _ c => .inr c))
  · rcases ho k hk with c | c
    · exact .inl c
    · exact .inr ⟨by omega, c.2⟩
  · rcases ho k c with c | c
    · exact hd c
    · have := hlt k (.inl hl); omega
set_option maxRecDepth 100000 in
theorem com_down {w w3 w4 w5 w6 : World} {OL OD OD6 : Nat → Prop} {l p : Nat} {gv tv gv4 tv4 : Value} {hs hs4 : List Part} {L : LS} {D D' : dSt} {X : Prop} {z : Int} (h : IsLogV w OL l p gv tv hs L ∧ IsDO w OD p D ∧ (∀ k, OL k → ¬ OD k) ∧ (∀ k, OL k ∨ OD k → k < w.heap.size) ∧ X) (h3 : Adds w w3) (h4 : Touch (fun k => k = l) w3 w4) (h5 : Adds w4 w5)
    (h6 : IsLogV w6 OL l p gv4 tv4 hs4 { L with R := [] }) (hd : IsDO w6 OD6 p D' ∧ Touch OD w5 w6 ∧ ∀ k, OD6 k → OD k ∨ (w5.heap.size ≤ k ∧ k < w6.heap.size)) :
    PCom w OL OD l p { L with cl := true, R := [] } D' z (.returned (.int .i64 z)) (w6.setCell ⟨l, 4, none⟩ (.bool true)) := by
  obtain ⟨t1, t2, t3⟩ := com_touch h.1.ol h.2.2.2.1 h3 h4 h5 hd.2.1 hd.2.2
  have e : w6.setCell ⟨l, 4, none⟩ (.bool true) = w6.setRow l #[Ptr p, .int .i64 (L.fr : Int), .int .i64 (L.ct : Int), .int .i64 (L.ep : Int), .bool true, gv4, .int .i64 (W.usedOf L.G : Int), .int .i64 0, tv4] := by
    rw [setCell_eq_setRow w6 l 4 _ 83 _ _ h6.box]; rfl
  have hT7 : Touch (fun k => k = l) w6 (w6.setCell ⟨l, 4, none⟩ (.bool true)) := Touch.setCell (T := fun k => k = l) (Touch.refl _ _) (fun _ => rfl) _
  have hb7 : (w6.setCell ⟨l, 4, none⟩ (.bool true)).heap[l]? = some (LBox p { L with cl := true, R := [] } gv4 tv4) := by rw [e]; exact setRow_heap w6 l _ _ 83 _ h6.box
  refine ⟨rfl, OL, OD6, ⟨gv4, tv4, hs4, h6.box' hT7 tv4 hb7 rfl (row_touch h6.texts hT7 (fun k hk e => h6.ne.2.1 (by rw [hk]; exact congrArg some e))) h6.ot (fun _ _ c => c)⟩, hd.1.touch hT7 (fun k q c => by subst c; exact t3 k h6.ol (h.2.2.1 k h6.ol) q), fun k q => t3 k q (h.2.2.1 k q), t1.trans (hT7.mono (fun k _ c => by subst c; exact .inl h6.ol)), fun k hk => ?_⟩
  have s7 := hT7.size
  rcases hk with c | c
  · exact .inl (.inl c)
  · rcases t2 k c with c | c
    · exact .inl (.inr c)
    · exact .inr ⟨c.1, by omega⟩
set_option maxRecDepth 100000 in
set_option maxHeartbeats 4000000 in
theorem commit_down {w : World} {OL OD : Nat → Prop} {l p : Nat} {gv tv : Value} {hs : List Part} {L : LS} {D : dSt} {n0 : Nat} (h : IsLogV w OL l p gv tv hs L) (hD : IsDO w OD p D) (hap : ∀ k, OL k → ¬ OD k) (hlt : ∀ k, OL k ∨ OD k → k < w.heap.size) (hk : L.Ok) (hdk : DOk D n0)
    (hn0 : n0 + W.secs (W.gbytes L.R).length ≤ 800) (hcl : L.cl = false) (hR : L.R ≠ []) (hsz : L.fr + L.ct ≤ D.size) (hT : Tab w) (h0 : ¬ OD 0) (D' : dSt) (z : Int) (hz : ¬ z = 0)
    (hr : goW (fW L.fr L.ep (W.usedOf L.G) (W.gbytes L.R)) (W.secs (W.gbytes L.R).length) 0 D = (z, D')) : Calls Tryz.prog 16 #[Ptr l] w (PCom w OL OD l p { L with cl := true, R := [] } D' z) := by
  obtain ⟨ta, tc, htv, htc, hta, htq⟩ := own_cq h.texts
  subst htv
  have hl := hk.len
  obtain ⟨g, hg⟩ : ∃ g, g = W.gbytes L.R := ⟨_, rfl⟩
  obtain ⟨n, hn⟩ : ∃ n, n = g.length := ⟨_, rfl⟩
  obtain ⟨m, hm⟩ : ∃ m, m = (W.texts L.R).length := ⟨_, rfl⟩
  obtain ⟨k, hkr⟩ : ∃ k, k = L.R.length := ⟨_, rfl⟩
  obtain ⟨us, hus⟩ : ∃ us, us = W.usedOf L.G := ⟨_, rfl⟩
  obtain ⟨fr, hfr⟩ : ∃ fr, fr = L.fr := ⟨_, rfl⟩
  obtain ⟨ct, hct⟩ : ∃ ct, ct = L.ct := ⟨_, rfl⟩
  obtain ⟨ep, hep⟩ : ∃ ep, ep = L.ep := ⟨_, rfl⟩
  obtain ⟨nl, hnl⟩ : ∃ nl, nl = (M.enc k).length := ⟨_, rfl⟩
  have hk0 : 0 < k := by rw [hkr]; cases hq : L.R with | nil => exact absurd hq hR | cons a b => simp
  have hk0' : ¬ (k : Int) = 0 := by omega
  have hk0b : ((k : Int) == 0) = false := beq_eq_false_iff_ne.2 hk0'
  have hm2 : m ≤ 2330000 := by rw [hm]; exact hl.1
  have hk2 : k ≤ 2330000 := by rw [hkr]; exact hl.2
  have hnl2 : nl ≤ 10 := by rw [hnl]; exact M.len_enc10 (by omega)
  have hgl : n = nl + m := by rw [hn, hg, W.gbytes, List.length_append, hnl, hm, hkr]
  have HB := hid (show w.heap[l]? = some (.cells #[Ptr p, .int .i64 (fr : Int), .int .i64 (ct : Int), .int .i64 (ep : Int), .bool false, gv, .int .i64 (us : Int), .int .i64 (k : Int), .slice ta m tc] 83 (0, 0)) by rw [hfr, hct, hep, hus, hkr, hm, ← hcl]; exact h.box)
  have c0 : w.cell? ⟨l, 0, none⟩ = some (Ptr p) := cellOf HB.out 0
  have c4 : w.cell? ⟨l, 4, none⟩ = some (.bool false) := cellOf HB.out 4
  have c7 : w.cell? ⟨l, 7, none⟩ = some (.int .i64 (k : Int)) := cellOf HB.out 7
  have H := hid (lmade_yes l p w c0)
  have HN := hid (fun w' => number_any k w' (by omega))
  have HC := hid (fun (w1 : World) (na : Option Addr) (nc : Nat) (h1 : At w1 na (M.enc k)) (h2 : na = none → nc = 0) (h3 : At w1 ta (W.texts L.R)) => show Calls Tryz.prog 43 #[.slice (some ⟨w1.heap.size, 0, none⟩) 2 2] (w1.alloc (.cells #[.slice na nl nc, .slice ta m tc] 56)) (fun e w' => ∃ v, e = .returned v ∧ w'.ownsRow w1.heap.size 5 1 v n (S g) ∧ Adds w1 w') by
    have hc : Calls Tryz.prog 43 #[.slice (some ⟨w1.heap.size, 0, none⟩) 2 2] (w1.alloc (.cells #[.slice na (M.enc k).length nc, .slice ta (W.texts L.R).length tc] 56)) (fun e w' => ∃ v, e = .returned v ∧ w'.ownsRow w1.heap.size 5 1 v (M.enc k ++ W.texts L.R).length (S (M.enc k ++ W.texts L.R)) ∧ Adds w1 w') := concat_two ⟨na, M.enc k, nc⟩ ⟨ta, W.texts L.R, tc⟩ h1 h3 h2 hta (by simp only; omega)
    rw [← hnl, ← hm, List.length_append, ← hnl, ← hm, ← hgl, show M.enc k ++ W.texts L.R = g by rw [hg, W.gbytes, hkr]] at hc
    exact hc)
  have hus2 : us + W.secs n ≤ ct ∧ ct ≤ 10000 := by have q1 := hk.wt hR; have q2 := hk.us; have q3 := hk.ct; rw [hus, hct, hn, hg]; omega
  have HP := hid (fun (w4 : World) (gb gc : Nat) (hA : At w4 (some ⟨gb, 0, none⟩) g) => cut_any (some ⟨gb, 0, none⟩) g n gc hn.symm w4 (by omega) (fun e => by cases e) hA)
  have HW := hid (fun (w5 : World) (gv4 tv4 : Value) (pa : Option Addr) (m5 pc : Nat) (hs5 : List Part) (Q : Nat → Prop) (hb5 : w5.heap[l]? = some (LBox p { L with R := [] } gv4 tv4)) (hD5 : IsDO w5 OD p D) (hT5 : Tab w5) (hm5 : hs5.length = m5) (hP5 : CQ w5 Q pa (hs5.map PV)) (hX5 : ∀ x ∈ hs5, PQ w5 Q x) (hQ5 : ∀ k, Q k → ¬ OD k) (hb : hs5.map (·.bs) = W.pieces g) =>
    show Calls Tryz.prog 44 #[Ptr l, .slice pa m5 pc] w5 (PWr w5 OD p (z, D')) by
      have q := write_any (L := { L with R := [] }) hb5 hD5 hdk g (by rw [hg]; exact hn0) ⟨hk.fr, hk.ct, hk.ep, hk.us, fun c => absurd rfl c, hk.good⟩ hsz (by rw [← hn]; show W.usedOf L.G + W.secs n ≤ L.ct; rw [← hus, ← hct]; exact hus2.1) hT5 h0 pa m5 pc hs5 hm5 hP5 hX5 hQ5 hb
      have e1 : goW (fW L.fr L.ep (W.usedOf L.G) g) (W.secs g.length) 0 D = (z, D') := by rw [hg]; exact hr
      rw [e1] at q
      exact q)
  have HH := hid (And.intro h (And.intro hD (And.intro hap (And.intro hlt (And.intro hta htq)))))
  have HK := hid (And.intro hg (And.intro hn (And.intro hm (And.intro hkr (And.intro hus (And.intro hfr (And.intro hct (And.intro hep (And.intro hnl (And.intro hcl hT))))))))))
  have HG := hid (And.intro hk (And.intro hR hus2))
  clear hg hn hm hkr hus hfr hct hep hnl hcl hT hr h hD hap hlt hta htq htc hl hdk hn0 hsz h0 hR hk hgl
  go_enter Tryz.func16, Tryz.ntmps16
  go_upto_region 7 with (first
    | (go_at_call 38; refine H.out.mono ?_; rintro e _ ⟨rfl, hw⟩; rw [hw]; clear hw))
  refine H_begin (S := fun w' : World => w'.heap[l]? = some (.cells #[Ptr p, .int .i64 (fr : Int), .int .i64 (ct : Int), .int .i64 (ep : Int), .bool false, gv, .int .i64 (us : Int), .int .i64 (k : Int), .slice ta m tc] 83 (0, 0))) (by kernel_rfl) ?_
  have hS : (fun w' : World => w'.heap[l]? = some (.cells #[Ptr p, .int .i64 (fr : Int), .int .i64 (ct : Int), .int .i64 (ep : Int), .bool false, gv, .int .i64 (us : Int), .int .i64 (k : Int), .slice ta m tc] 83 (0, 0))) w.drew := HB.out
  refine H_put (i := 0) 20 (v := Ptr l) rfl rfl (by kernel_rfl) (by kernel_rfl) (by kernel_rfl) (fun _ _ _ h => h) (Or.inl ⟨by rfl, fun w' hw' => ?_⟩) hS ?_
  · go_simp
  simp only [Act.put, List.setIfInBounds_toArray, List.set_cons_zero, List.set_cons_succ]
  refine H_put (i := 1) 21 (v := Ptr l) rfl rfl (by kernel_rfl) (by kernel_rfl) (by kernel_rfl) (fun _ _ _ h => h) (Or.inl ⟨by rfl, fun w' hw' => ?_⟩) hS ?_
  · go_simp
  simp only [Act.put, List.setIfInBounds_toArray, List.set_cons_zero, List.set_cons_succ]
  refine H_put (i := 2) 22 (v := .pointer (some ⟨l, 7, none⟩)) rfl rfl (by kernel_rfl) (by kernel_rfl) (by kernel_rfl) (fun _ _ _ h => h) (Or.inl ⟨by rfl, fun w' hw' => ?_⟩) hS ?_
  · go_simp
  simp only [Act.put, List.setIfInBounds_toArray, List.set_cons_zero, List.set_cons_succ]
  refine H_put (i := 3) 23 (v := .int .i64 (k : Int)) rfl rfl (by kernel_rfl) (by kernel_rfl) (by kernel_rfl) (fun _ _ _ h => h) (Or.inl ⟨by rfl, fun w' hw' => ?_⟩) hS ?_
  · have c : w'.cell? ⟨l, 7, none⟩ = some (.int .i64 (k : Int)) := cellOf (hw') 7; go_simp
  simp only [Act.put, List.setIfInBounds_toArray, List.set_cons_zero, List.set_cons_succ]
  refine H_put (i := 5) 25 (v := Ptr l) rfl rfl (by kernel_rfl) (by kernel_rfl) (by kernel_rfl) (fun _ _ _ h => h) (Or.inl ⟨by rfl, fun w' hw' => ?_⟩) hS ?_
  · go_simp
  simp only [Act.put, List.setIfInBounds_toArray, List.set_cons_zero, List.set_cons_succ]
  refine H_put (i := 6) 26 (v := Ptr l) rfl rfl (by kernel_rfl) (by kernel_rfl) (by kernel_rfl) (fun _ _ _ h => h) (Or.inl ⟨by rfl, fun w' hw' => ?_⟩) hS ?_
  · go_simp
  simp only [Act.put, List.setIfInBounds_toArray, List.set_cons_zero, List.set_cons_succ]
  refine H_put (i := 7) 27 (v := .pointer (some ⟨l, 8, none⟩)) rfl rfl (by kernel_rfl) (by kernel_rfl) (by kernel_rfl) (fun _ _ _ h => h) (Or.inl ⟨by rfl, fun w' hw' => ?_⟩) hS ?_
  · go_simp
  simp only [Act.put, List.setIfInBounds_toArray, List.set_cons_zero, List.set_cons_succ]
  refine H_put (i := 8) 28 (v := .slice ta m tc) rfl rfl (by kernel_rfl) (by kernel_rfl) (by kernel_rfl) (fun _ _ _ h => h) (Or.inl ⟨by rfl, fun w' hw' => ?_⟩) hS ?_
  · have c : w'.cell? ⟨l, 8, none⟩ = some (.slice ta m tc) := cellOf (hw') 8; go_simp
  simp only [Act.put, List.setIfInBounds_toArray, List.set_cons_zero, List.set_cons_succ]
  refine H_call (i := 4) 24 41 #[.int .i64 (k : Int)] (by kernel_rfl) rfl rfl (by rfl) (by go_simp) (HN.out w.drew) ?_
  rintro e w1 ⟨v1, rfl, o1, A1⟩
  obtain ⟨na, nc, hv1, _, hn1, hq1⟩ := own_cq o1
  rw [← HK.out.2.2.2.2.2.2.2.2.1] at hv1
  subst hv1
  have HA1 := hid (And.intro ((Touch.refl _ w).drew.trans A1) (And.intro hn1 hq1.at))
  have HB1 := hid (A1.at' hS id)
  clear A1 o1 hn1 hq1
  have hS2 : (fun w' : World => w'.heap[l]? = some (.cells #[Ptr p, .int .i64 (fr : Int), .int .i64 (ct : Int), .int .i64 (ep : Int), .bool false, gv, .int .i64 (us : Int), .int .i64 (k : Int), .slice ta m tc] 83 (0, 0))) _ := HB1.out
  refine ⟨_, _, rfl, hS2, fun w' h => h, ?_⟩
  clear hS; have hS := hS2; clear hS2
  simp only [Act.put, List.setIfInBounds_toArray, List.set_cons_zero, List.set_cons_succ]
  refine H_do (i := 9) (some 29) (by kernel_rfl) rfl rfl (by rfl) (fun K hK => ?_)
  go_simp
  have hS2 : (fun w' : World => w'.heap[l]? = some (.cells #[Ptr p, .int .i64 (fr : Int), .int .i64 (ct : Int), .int .i64 (ep : Int), .bool false, gv, .int .i64 (us : Int), .int .i64 (k : Int), .slice ta m tc] 83 (0, 0))) _ := ((Touch.refl (fun _ => False) w1).alloc (.cells #[.slice na nl nc, .slice ta m tc] 56)).at' HB1.out id
  refine hK (.slice (some ⟨w1.heap.size, 0, none⟩) 2 2) _ hS2 ?_
  clear hK K hS; have hS := hS2; clear hS2
  simp only [Act.put, List.setIfInBounds_toArray, List.set_cons_zero, List.set_cons_succ]
  refine H_call (i := 10) 30 43 #[.slice (some ⟨w1.heap.size, 0, none⟩) 2 2] (by kernel_rfl) rfl rfl (by rfl) (by go_simp) (HC.out w1 na nc HA1.out.2.2 HA1.out.2.1 (HH.out.2.2.2.2.2.at.adds HA1.out.1)) ?_
  rintro e w3 ⟨v3, rfl, o3, A3⟩
  obtain ⟨gb, gc, hv3, hb3, _⟩ := Own.some o3 (by have := HK.out.2.1; have q := W.enc_pos k; have := HG.out.2.2; rw [HK.out.2.1, HK.out.1, W.gbytes, List.length_append]; have := W.enc_pos L.R.length; omega)
  subst hv3
  have HA3 := hid (And.intro (HA1.out.1.trans A3) (And.intro o3 (And.intro hb3 HA1.out.1.size)))
  have HB3 := hid (A3.at' HB1.out id)
  clear A3 o3 hb3
  have hS2 : (fun w' : World => w'.heap[l]? = some (.cells #[Ptr p, .int .i64 (fr : Int), .int .i64 (ct : Int), .int .i64 (ep : Int), .bool false, gv, .int .i64 (us : Int), .int .i64 (k : Int), .slice ta m tc] 83 (0, 0))) _ := HB3.out
  refine ⟨_, _, rfl, hS2, fun w' h => h, ?_⟩
  clear hS; have hS := hS2; clear hS2
  simp only [Act.put, List.setIfInBounds_toArray, List.set_cons_zero, List.set_cons_succ]
  refine H_put (i := 11) 3 (v := .slice (some ⟨gb, 0, none⟩) n gc) rfl rfl (by kernel_rfl) (by kernel_rfl) (by kernel_rfl) (fun _ _ _ h => h) (Or.inl ⟨by rfl, fun w' hw' => ?_⟩) hS ?_
  · go_simp
  simp only [Act.put, List.setIfInBounds_toArray, List.set_cons_zero, List.set_cons_succ]
  refine wpAnyH_done (by kernel_rfl) ?_ _
  have HL3 := hid (show IsLog w3 OL l p L from ⟨gv, _, hs, HH.out.1.touch HA3.out.1 (fun _ _ => id)⟩)
  go_wp2_with (first
    | (go_at_call 27; refine (drop_any HL3.out).mono ?_; rintro e w4 ⟨rfl, hL4, hT4⟩; obtain ⟨gv4, tv4, hs4, h4⟩ := hL4
       obtain ⟨ga, gc4, hgv4, _, _, _⟩ := own_cq h4.rows
       subst hgv4
       have H4 := hid (And.intro h4 hT4)
       have HT4 := hid (hT4.mono (U := fun k => OL k ∨ OD k) (fun k _ c => by subst c; exact .inl HH.out.1.ol))
       clear h4 hT4)
    | (go_at_call 45; refine (HP.out w4 gb gc (com_at HA3.out.2.1 HA3.out.2.2.1 HA3.out.2.2.2 (HH.out.2.2.2.1 l (.inl HH.out.1.ol)) H4.out.2)).mono ?_; rintro e w5 ⟨v5, hs5, rfl, H5⟩
       obtain ⟨pa, pc, hv5, hq5⟩ := H5.out.1.pl
       subst hv5
       have HQ5 := hid hq5
       clear hq5)
    | (go_at_call 44; refine (HW.out w5 (.slice ga hs4.length gc4) tv4 pa hs5.length pc hs5 (fun k => w4.heap.size ≤ k) (H5.out.2.2.at' H4.out.1.box id) (com_disk HH.out HA3.out.1 H4.out.2 H5.out.2.2) (com_tab HK.out.2.2.2.2.2.2.2.2.2.2 HA3.out.1 H4.out.2 H5.out.2.2 (cellOf HB.out 0)) rfl HQ5.out.at_ HQ5.out.all (fun k hk c => by have := HH.out.2.2.2.1 k (.inr c); have := HA3.out.1.size; have := H4.out.2.size; omega) H5.out.2.1).mono ?_; rintro e w6 ⟨rfl, H6⟩
       obtain ⟨OD6, hD6, hT6, hO6⟩ := H6
       have HL6 := hid ((H4.out.1.touch H5.out.2.2 (fun _ _ => id)).touch hT6 (fun k q c => HH.out.2.2.1 k q c))
       have HD6 := hid (And.intro hD6 (And.intro hT6 hO6))
       clear hD6 hT6 hO6
       have c46 : w6.cell? ⟨l, 4, none⟩ = some (.bool L.cl) := cellOf HL6.out.box 4
       have f46 : w6.frozen? ⟨l, 4, none⟩ = false := frozen_of_row w6 l 4 _ 83 HL6.out.box))
  go_ret
  exact com_down HH.out HA3.out.1 H4.out.2 H5.out.2.2 HL6.out HD6.out
set_option maxRecDepth 100000 in
theorem com_up {w w3 w4 w5 w6 w8 w9 : World} {OL OD OD6 : Nat → Prop} {l p : Nat} {gv tv tv4 gv4 gv8 : Value} {hs hs4 : List Part} {L : LS} {D D' : dSt} {X Y : Prop} {B gb gc n m k us sc : Nat} {g : List UInt8} (h : IsLogV w OL l p gv tv hs L ∧ IsDO w OD p D ∧ (∀ k, OL k → ¬ OD k) ∧ (∀ k, OL k ∨ OD k → k < w.heap.size) ∧ X) (h3 : Adds w w3) (h4 : Touch (fun k => k = l) w3 w4) (h5 : Adds w4 w5)
    (h6 : IsLogV w6 OL l p gv4 tv4 hs4 { L with R := [] }) (hd : IsDO w6 OD6 p D' ∧ Touch OD w5 w6 ∧ ∀ k, OD6 k → OD k ∨ (w5.heap.size ≤ k ∧ k < w6.heap.size))
    (hG : Grew (w6.alloc (.cells #[.slice (some ⟨gb, 0, none⟩) n gc] 56)) w8 56 gv4 gv8 (hs4.length + 1) (hs4.map PV ++ [.slice (some ⟨gb, 0, none⟩) n gc]))
    (hb9 : w9.heap[l]? = some (.cells #[Ptr p, .int .i64 (L.fr : Int), .int .i64 (L.ct : Int), .int .i64 (L.ep : Int), .bool L.cl, gv8, .int .i64 (us : Int), .int .i64 0, tv4] 83 (0, 0))) (hw9 : w9 = w8.setCell ⟨l, 5, none⟩ gv8)
    (ho : w3.ownsRow B 5 1 (.slice (some ⟨gb, 0, none⟩) n gc) n (S g) ∧ B ≤ gb ∧ w.heap.size ≤ B) (hK : g = W.gbytes L.R ∧ n = g.length ∧ m = (W.texts L.R).length ∧ k = L.R.length ∧ us = W.usedOf L.G ∧ Y) (hsc : sc = W.secs n) :
    PCom w OL OD l p { L with G := L.G ++ [W.gbytes L.R], R := [] } D' 0 (.returned (.int .i64 0)) (w9.drew.setCell ⟨l, 6, none⟩ (.int .i64 ((us : Int) + sc))) := by
  obtain ⟨hg, hn, _, _, hus, _⟩ := hK
  subst hn hsc hus
  have hlt := h.2.2.2.1
  have hll := hlt l (.inl h.1.ol)
  obtain ⟨t1, t2, t3⟩ := com_touch h.1.ol hlt h3 h4 h5 hd.2.1 hd.2.2
  have s3 := h3.size
  have s4 := h4.size
  have s5 := h5.size
  have s6 := hd.2.1.size
  have hgb3 := (row_low (k := gb) ho.1 rfl).2
  have hnb : ∀ j, OL j ∨ OD j → j ≠ gb := fun j hj e => by have := hlt j hj; omega
  have hA6 : At w6 (some ⟨gb, 0, none⟩) g := ((com_at ho.1 ho.2.1 ho.2.2 hll h4).adds h5).block (fun b o e hb => by
    obtain rfl : gb = b := by simpa using congrArg (fun x => x.map Addr.block) e
    exact hd.2.1.block gb hb (fun c => hnb gb (.inr c) rfl))
  have hx : PQ w6 (fun j => j ≠ l ∧ gv4.ownBlock ≠ some j ∧ tv4.ownBlock ≠ some j ∧ ∃ o, (⟨some ⟨gb, 0, none⟩, g, gc⟩ : Part).a = some ⟨j, o, none⟩) ⟨some ⟨gb, 0, none⟩, g, gc⟩ :=
    ⟨hA6.cq (fun b o e => by
      obtain rfl : gb = b := by simpa using congrArg (fun x => x.map Addr.block) e
      exact ⟨fun e => hnb l (.inl h.1.ol) e.symm, fun c => hnb gb (.inl (h6.og gb c)) rfl, fun c => hnb gb (.inl (h6.ot gb c)) rfl, 0, rfl⟩), fun e => by cases e⟩
  have hT9 : Touch (fun j => j = l) w8 (w9.drew.setCell ⟨l, 6, none⟩ (.int .i64 ((W.usedOf L.G : Int) + W.secs g.length))) := by
    rw [hw9]
    exact Touch.setCell (T := fun j => j = l) (Touch.setCell (T := fun j => j = l) (Touch.refl _ w8) (fun _ => rfl) _).drew (fun _ => rfl) _
  have hb10 : (w9.drew.setCell ⟨l, 6, none⟩ (.int .i64 ((W.usedOf L.G : Int) + W.secs g.length))).heap[l]? = some (LBox p { L with G := L.G ++ [W.gbytes L.R], R := [] } gv8 tv4) := by
    rw [setCell_eq_setRow w9.drew l 6 _ 83 _ _ hb9, setRow_heap w9.drew l _ _ 83 _ hb9]
    have e2 : W.usedOf (L.G ++ [W.gbytes L.R]) = W.usedOf L.G + W.secs g.length := by rw [W.usedOf_app, hg]; simp [W.usedOf]
    simp only [LBox, e2]
    rfl
  have hA : Adds w6 (w6.alloc (.cells #[.slice (some ⟨gb, 0, none⟩) g.length gc] 56)) := (Touch.refl _ w6).alloc _
  have hF := com_mem h6 hA hG hx hT9 hb10 rfl (by rw [← hg])
  have s8 := hG.touch.size
  have s9 := hT9.size
  have s7 : (w6.alloc (.cells #[.slice (some ⟨gb, 0, none⟩) g.length gc] 56)).heap.size = w6.heap.size + 1 := by simp
  have hv : ∀ j, gv8.ownBlock = some j → OL j ∨ (w6.heap.size < j ∧ j < w8.heap.size) := fun j hj => by
    rcases hG.2.2 with c | c
    · exact .inl (h6.og j (by rw [← c]; exact hj))
    · refine .inr ⟨?_, (row_low hG.1 hj).2⟩
      rw [c] at hj; cases hj; omega
  have hl6 : ∀ j, OD6 j → j < w6.heap.size := fun j hj => by
    rcases t2 j hj with c | c
    · have := hlt j (.inr c); omega
    · exact c.2
  have hD9 : IsDO (w9.drew.setCell ⟨l, 6, none⟩ (.int .i64 ((W.usedOf L.G : Int) + W.secs g.length))) OD6 p D' :=
    ((hd.1.adds hA).touch hG.touch (fun j q c => t3 j (h6.og j c) (h.2.2.1 j (h6.og j c)) q)).touch hT9 (fun j q c => by subst c; exact t3 j h6.ol (h.2.2.1 j h6.ol) q)
  refine ⟨rfl, _, OD6, ⟨gv8, tv4, _, hF⟩, hD9, ?_, ?_, ?_⟩
  · intro j hj hod
    rcases hj with c | ⟨o, c⟩ | c
    · exact t3 j c (h.2.2.1 j c) hod
    · obtain rfl : gb = j := by simpa using congrArg (fun x => x.map Addr.block) c
      rcases hd.2.2 gb hod with c | c
      · exact hnb gb (.inr c) rfl
      · omega
    · rcases hv j c with c | c
      · exact t3 j c (h.2.2.1 j c) hod
      · have := hl6 j hod; omega
  · exact (((t1.trans (hA.mono (fun _ _ c => c.elim))).trans (hG.touch.mono (fun j _ c => .inl (h6.og j c)))).trans (hT9.mono (fun j _ c => by subst c; exact .inl h6.ol)))
  · intro j hj
    rcases hj with (c | ⟨o, c⟩ | c) | c
    · exact .inl (.inl c)
    · obtain rfl : gb = j := by simpa using congrArg (fun x => x.map Addr.block) c
      exact .inr ⟨by omega, by omega⟩
    · rcases hv j c with c | c
      · exact .inl (.inl c)
      · exact .inr ⟨by omega, by omega⟩
    · rcases t2 j c with c | c
      · exact .inl (.inr c)
      · exact .inr ⟨c.1, by omega⟩
set_option maxRecDepth 100000 in
theorem com_len {L : LS} {hs : List Part} (h : L.Ok) (hb : hs.map (·.bs) = L.G) : hs.length ≤ 10000000 := by
  have h1 := h.us
  have h2 := h.ct
  have h3 : ∀ G : List (List UInt8), G.length ≤ W.usedOf G := fun G => by
    induction G with
    | nil => exact Nat.le_refl _
    | cons g G ih => rw [W.usedOf, List.length_cons]; have := W.secs_pos g.length; omega
  have h4 := h3 L.G
  rw [← hb, List.length_map, hb] at h4
  omega
set_option maxRecDepth 100000 in
set_option maxHeartbeats 4000000 in
theorem commit_up {w : World} {OL OD : Nat → Prop} {l p : Nat} {gv tv : Value} {hs : List Part} {L : LS} {D : dSt} {n0 : Nat} (h : IsLogV w OL l p gv tv hs L) (hD : IsDO w OD p D) (hap : ∀ k, OL k → ¬ OD k) (hlt : ∀ k, OL k ∨ OD k → k < w.heap.size) (hk : L.Ok) (hdk : DOk D n0)
    (hn0 : n0 + W.secs (W.gbytes L.R).length ≤ 800) (hcl : L.cl = false) (hR : L.R ≠ []) (hsz : L.fr + L.ct ≤ D.size) (hT : Tab w) (h0 : ¬ OD 0) (D' : dSt)
    (hr : goW (fW L.fr L.ep (W.usedOf L.G) (W.gbytes L.R)) (W.secs (W.gbytes L.R).length) 0 D = (0, D')) : Calls Tryz.prog 16 #[Ptr l] w (PCom w OL OD l p { L with G := L.G ++ [W.gbytes L.R], R := [] } D' 0) := by
  obtain ⟨ta, tc, htv, htc, hta, htq⟩ := own_cq h.texts
  subst htv
  have hl := hk.len
  obtain ⟨g, hg⟩ : ∃ g, g = W.gbytes L.R := ⟨_, rfl⟩
  obtain ⟨n, hn⟩ : ∃ n, n = g.length := ⟨_, rfl⟩
  obtain ⟨m, hm⟩ : ∃ m, m = (W.texts L.R).length := ⟨_, rfl⟩
  obtain ⟨k, hkr⟩ : ∃ k, k = L.R.length := ⟨_, rfl⟩
  obtain ⟨us, hus⟩ : ∃ us, us = W.usedOf L.G := ⟨_, rfl⟩
  obtain ⟨fr, hfr⟩ : ∃ fr, fr = L.fr := ⟨_, rfl⟩
  obtain ⟨ct, hct⟩ : ∃ ct, ct = L.ct := ⟨_, rfl⟩
  obtain ⟨ep, hep⟩ : ∃ ep, ep = L.ep := ⟨_, rfl⟩
  obtain ⟨nl, hnl⟩ : ∃ nl, nl = (M.enc k).length := ⟨_, rfl⟩
  have hk0 : 0 < k := by rw [hkr]; cases hq : L.R with | nil => exact absurd hq hR | cons a b => simp
  have hk0' : ¬ (k : Int) = 0 := by omega
  have hk0b : ((k : Int) == 0) = false := beq_eq_false_iff_ne.2 hk0'
  have hm2 : m ≤ 2330000 := by rw [hm]; exact hl.1
  have hk2 : k ≤ 2330000 := by rw [hkr]; exact hl.2
  have hnl2 : nl ≤ 10 := by rw [hnl]; exact M.len_enc10 (by omega)
  have hgl : n = nl + m := by rw [hn, hg, W.gbytes, List.length_append, hnl, hm, hkr]
  have HB := hid (show w.heap[l]? = some (.cells #[Ptr p, .int .i64 (fr : Int), .int .i64 (ct : Int), .int .i64 (ep : Int), .bool false, gv, .int .i64 (us : Int), .int .i64 (k : Int), .slice ta m tc] 83 (0, 0)) by rw [hfr, hct, hep, hus, hkr, hm, ← hcl]; exact h.box)
  have c0 : w.cell? ⟨l, 0, none⟩ = some (Ptr p) := cellOf HB.out 0
  have c4 : w.cell? ⟨l, 4, none⟩ = some (.bool false) := cellOf HB.out 4
  have c7 : w.cell? ⟨l, 7, none⟩ = some (.int .i64 (k : Int)) := cellOf HB.out 7
  have H := hid (lmade_yes l p w c0)
  have HN := hid (fun w' => number_any k w' (by omega))
  have HC := hid (fun (w1 : World) (na : Option Addr) (nc : Nat) (h1 : At w1 na (M.enc k)) (h2 : na = none → nc = 0) (h3 : At w1 ta (W.texts L.R)) => show Calls Tryz.prog 43 #[.slice (some ⟨w1.heap.size, 0, none⟩) 2 2] (w1.alloc (.cells #[.slice na nl nc, .slice ta m tc] 56)) (fun e w' => ∃ v, e = .returned v ∧ w'.ownsRow w1.heap.size 5 1 v n (S g) ∧ Adds w1 w') by
    have hc : Calls Tryz.prog 43 #[.slice (some ⟨w1.heap.size, 0, none⟩) 2 2] (w1.alloc (.cells #[.slice na (M.enc k).length nc, .slice ta (W.texts L.R).length tc] 56)) (fun e w' => ∃ v, e = .returned v ∧ w'.ownsRow w1.heap.size 5 1 v (M.enc k ++ W.texts L.R).length (S (M.enc k ++ W.texts L.R)) ∧ Adds w1 w') := concat_two ⟨na, M.enc k, nc⟩ ⟨ta, W.texts L.R, tc⟩ h1 h3 h2 hta (by simp only; omega)
    rw [← hnl, ← hm, List.length_append, ← hnl, ← hm, ← hgl, show M.enc k ++ W.texts L.R = g by rw [hg, W.gbytes, hkr]] at hc
    exact hc)
  have hus2 : us + W.secs n ≤ ct ∧ ct ≤ 10000 := by have q1 := hk.wt hR; have q2 := hk.us; have q3 := hk.ct; rw [hus, hct, hn, hg]; omega
  have HP := hid (fun (w4 : World) (gb gc : Nat) (hA : At w4 (some ⟨gb, 0, none⟩) g) => cut_any (some ⟨gb, 0, none⟩) g n gc hn.symm w4 (by omega) (fun e => by cases e) hA)
  have HW := hid (fun (w5 : World) (gv4 tv4 : Value) (pa : Option Addr) (m5 pc : Nat) (hs5 : List Part) (Q : Nat → Prop) (hb5 : w5.heap[l]? = some (LBox p { L with R := [] } gv4 tv4)) (hD5 : IsDO w5 OD p D) (hT5 : Tab w5) (hm5 : hs5.length = m5) (hP5 : CQ w5 Q pa (hs5.map PV)) (hX5 : ∀ x ∈ hs5, PQ w5 Q x) (hQ5 : ∀ k, Q k → ¬ OD k) (hb : hs5.map (·.bs) = W.pieces g) =>
    show Calls Tryz.prog 44 #[Ptr l, .slice pa m5 pc] w5 (PWr w5 OD p (0, D')) by
      have q := write_any (L := { L with R := [] }) hb5 hD5 hdk g (by rw [hg]; exact hn0) ⟨hk.fr, hk.ct, hk.ep, hk.us, fun c => absurd rfl c, hk.good⟩ hsz (by rw [← hn]; show W.usedOf L.G + W.secs n ≤ L.ct; rw [← hus, ← hct]; exact hus2.1) hT5 h0 pa m5 pc hs5 hm5 hP5 hX5 hQ5 hb
      have e1 : goW (fW L.fr L.ep (W.usedOf L.G) g) (W.secs g.length) 0 D = (0, D') := by rw [hg]; exact hr
      rw [e1] at q
      exact q)
  have HH := hid (And.intro h (And.intro hD (And.intro hap (And.intro hlt (And.intro hta htq)))))
  have HK := hid (And.intro hg (And.intro hn (And.intro hm (And.intro hkr (And.intro hus (And.intro hfr (And.intro hct (And.intro hep (And.intro hnl (And.intro hcl hT))))))))))
  have HG := hid (And.intro hk (And.intro hR hus2))
  clear hg hn hm hkr hus hfr hct hep hnl hcl hT hr h hD hap hlt hta htq htc hl hdk hn0 hsz h0 hR hk hgl
  go_enter Tryz.func16, Tryz.ntmps16
  go_upto_region 7 with (first
    | (go_at_call 38; refine H.out.mono ?_; rintro e _ ⟨rfl, hw⟩; rw [hw]; clear hw))
  refine H_begin (S := fun w' : World => w'.heap[l]? = some (.cells #[Ptr p, .int .i64 (fr : Int), .int .i64 (ct : Int), .int .i64 (ep : Int), .bool false, gv, .int .i64 (us : Int), .int .i64 (k : Int), .slice ta m tc] 83 (0, 0))) (by kernel_rfl) ?_
  have hS : (fun w' : World => w'.heap[l]? = some (.cells #[Ptr p, .int .i64 (fr : Int), .int .i64 (ct : Int), .int .i64 (ep : Int), .bool false, gv, .int .i64 (us : Int), .int .i64 (k : Int), .slice ta m tc] 83 (0, 0))) w.drew := HB.out
  refine H_put (i := 0) 20 (v := Ptr l) rfl rfl (by kernel_rfl) (by kernel_rfl) (by kernel_rfl) (fun _ _ _ h => h) (Or.inl ⟨by rfl, fun w' hw' => ?_⟩) hS ?_
  · go_simp
  simp only [Act.put, List.setIfInBounds_toArray, List.set_cons_zero, List.set_cons_succ]
  refine H_put (i := 1) 21 (v := Ptr l) rfl rfl (by kernel_rfl) (by kernel_rfl) (by kernel_rfl) (fun _ _ _ h => h) (Or.inl ⟨by rfl, fun w' hw' => ?_⟩) hS ?_
  · go_simp
  simp only [Act.put, List.setIfInBounds_toArray, List.set_cons_zero, List.set_cons_succ]
  refine H_put (i := 2) 22 (v := .pointer (some ⟨l, 7, none⟩)) rfl rfl (by kernel_rfl) (by kernel_rfl) (by kernel_rfl) (fun _ _ _ h => h) (Or.inl ⟨by rfl, fun w' hw' => ?_⟩) hS ?_
  · go_simp
  simp only [Act.put, List.setIfInBounds_toArray, List.set_cons_zero, List.set_cons_succ]
  refine H_put (i := 3) 23 (v := .int .i64 (k : Int)) rfl rfl (by kernel_rfl) (by kernel_rfl) (by kernel_rfl) (fun _ _ _ h => h) (Or.inl ⟨by rfl, fun w' hw' => ?_⟩) hS ?_
  · have c : w'.cell? ⟨l, 7, none⟩ = some (.int .i64 (k : Int)) := cellOf (hw') 7; go_simp
  simp only [Act.put, List.setIfInBounds_toArray, List.set_cons_zero, List.set_cons_succ]
  refine H_put (i := 5) 25 (v := Ptr l) rfl rfl (by kernel_rfl) (by kernel_rfl) (by kernel_rfl) (fun _ _ _ h => h) (Or.inl ⟨by rfl, fun w' hw' => ?_⟩) hS ?_
  · go_simp
  simp only [Act.put, List.setIfInBounds_toArray, List.set_cons_zero, List.set_cons_succ]
  refine H_put (i := 6) 26 (v := Ptr l) rfl rfl (by kernel_rfl) (by kernel_rfl) (by kernel_rfl) (fun _ _ _ h => h) (Or.inl ⟨by rfl, fun w' hw' => ?_⟩) hS ?_
  · go_simp
  simp only [Act.put, List.setIfInBounds_toArray, List.set_cons_zero, List.set_cons_succ]
  refine H_put (i := 7) 27 (v := .pointer (some ⟨l, 8, none⟩)) rfl rfl (by kernel_rfl) (by kernel_rfl) (by kernel_rfl) (fun _ _ _ h => h) (Or.inl ⟨by rfl, fun w' hw' => ?_⟩) hS ?_
  · go_simp
  simp only [Act.put, List.setIfInBounds_toArray, List.set_cons_zero, List.set_cons_succ]
  refine H_put (i := 8) 28 (v := .slice ta m tc) rfl rfl (by kernel_rfl) (by kernel_rfl) (by kernel_rfl) (fun _ _ _ h => h) (Or.inl ⟨by rfl, fun w' hw' => ?_⟩) hS ?_
  · have c : w'.cell? ⟨l, 8, none⟩ = some (.slice ta m tc) := cellOf (hw') 8; go_simp
  simp only [Act.put, List.setIfInBounds_toArray, List.set_cons_zero, List.set_cons_succ]
  refine H_call (i := 4) 24 41 #[.int .i64 (k : Int)] (by kernel_rfl) rfl rfl (by rfl) (by go_simp) (HN.out w.drew) ?_
  rintro e w1 ⟨v1, rfl, o1, A1⟩
  obtain ⟨na, nc, hv1, _, hn1, hq1⟩ := own_cq o1
  rw [← HK.out.2.2.2.2.2.2.2.2.1] at hv1
  subst hv1
  have HA1 := hid (And.intro ((Touch.refl _ w).drew.trans A1) (And.intro hn1 hq1.at))
  have HB1 := hid (A1.at' hS id)
  clear A1 o1 hn1 hq1
  have hS2 : (fun w' : World => w'.heap[l]? = some (.cells #[Ptr p, .int .i64 (fr : Int), .int .i64 (ct : Int), .int .i64 (ep : Int), .bool false, gv, .int .i64 (us : Int), .int .i64 (k : Int), .slice ta m tc] 83 (0, 0))) _ := HB1.out
  refine ⟨_, _, rfl, hS2, fun w' h => h, ?_⟩
  clear hS; have hS := hS2; clear hS2
  simp only [Act.put, List.setIfInBounds_toArray, List.set_cons_zero, List.set_cons_succ]
  refine H_do (i := 9) (some 29) (by kernel_rfl) rfl rfl (by rfl) (fun K hK => ?_)
  go_simp
  have hS2 : (fun w' : World => w'.heap[l]? = some (.cells #[Ptr p, .int .i64 (fr : Int), .int .i64 (ct : Int), .int .i64 (ep : Int), .bool false, gv, .int .i64 (us : Int), .int .i64 (k : Int), .slice ta m tc] 83 (0, 0))) _ := ((Touch.refl (fun _ => False) w1).alloc (.cells #[.slice na nl nc, .slice ta m tc] 56)).at' HB1.out id
  refine hK (.slice (some ⟨w1.heap.size, 0, none⟩) 2 2) _ hS2 ?_
  clear hK K hS; have hS := hS2; clear hS2
  simp only [Act.put, List.setIfInBounds_toArray, List.set_cons_zero, List.set_cons_succ]
  refine H_call (i := 10) 30 43 #[.slice (some ⟨w1.heap.size, 0, none⟩) 2 2] (by kernel_rfl) rfl rfl (by rfl) (by go_simp) (HC.out w1 na nc HA1.out.2.2 HA1.out.2.1 (HH.out.2.2.2.2.2.at.adds HA1.out.1)) ?_
  rintro e w3 ⟨v3, rfl, o3, A3⟩
  obtain ⟨gb, gc, hv3, hb3, _⟩ := Own.some o3 (by have := HK.out.2.1; have q := W.enc_pos k; have := HG.out.2.2; rw [HK.out.2.1, HK.out.1, W.gbytes, List.length_append]; have := W.enc_pos L.R.length; omega)
  subst hv3
  have HA3 := hid (And.intro (HA1.out.1.trans A3) (And.intro o3 (And.intro hb3 HA1.out.1.size)))
  have HB3 := hid (A3.at' HB1.out id)
  clear A3 o3 hb3
  have hS2 : (fun w' : World => w'.heap[l]? = some (.cells #[Ptr p, .int .i64 (fr : Int), .int .i64 (ct : Int), .int .i64 (ep : Int), .bool false, gv, .int .i64 (us : Int), .int .i64 (k : Int), .slice ta m tc] 83 (0, 0))) _ := HB3.out
  refine ⟨_, _, rfl, hS2, fun w' h => h, ?_⟩
  clear hS; have hS := hS2; clear hS2
  simp only [Act.put, List.setIfInBounds_toArray, List.set_cons_zero, List.set_cons_succ]
  refine H_put (i := 11) 3 (v := .slice (some ⟨gb, 0, none⟩) n gc) rfl rfl (by kernel_rfl) (by kernel_rfl) (by kernel_rfl) (fun _ _ _ h => h) (Or.inl ⟨by rfl, fun w' hw' => ?_⟩) hS ?_
  · go_simp
  simp only [Act.put, List.setIfInBounds_toArray, List.set_cons_zero, List.set_cons_succ]
  refine wpAnyH_done (by kernel_rfl) ?_ _
  have HL3 := hid (show IsLog w3 OL l p L from ⟨gv, _, hs, HH.out.1.touch HA3.out.1 (fun _ _ => id)⟩)
  go_upto_region 14 with (first
    | (go_at_call 27; refine (drop_any HL3.out).mono ?_; rintro e w4 ⟨rfl, hL4, hT4⟩; obtain ⟨gv4, tv4, hs4, h4⟩ := hL4
       obtain ⟨ga, gc4, hgv4, _, _, _⟩ := own_cq h4.rows
       subst hgv4
       have H4 := hid (And.intro h4 hT4)
       have HT4 := hid (hT4.mono (U := fun k => OL k ∨ OD k) (fun k _ c => by subst c; exact .inl HH.out.1.ol))
       clear h4 hT4)
    | (go_at_call 45; refine (HP.out w4 gb gc (com_at HA3.out.2.1 HA3.out.2.2.1 HA3.out.2.2.2 (HH.out.2.2.2.1 l (.inl HH.out.1.ol)) H4.out.2)).mono ?_; rintro e w5 ⟨v5, hs5, rfl, H5⟩
       obtain ⟨pa, pc, hv5, hq5⟩ := H5.out.1.pl
       subst hv5
       have HQ5 := hid hq5
       clear hq5)
    | (go_at_call 44; refine (HW.out w5 (.slice ga hs4.length gc4) tv4 pa hs5.length pc hs5 (fun k => w4.heap.size ≤ k) (H5.out.2.2.at' H4.out.1.box id) (com_disk HH.out HA3.out.1 H4.out.2 H5.out.2.2) (com_tab HK.out.2.2.2.2.2.2.2.2.2.2 HA3.out.1 H4.out.2 H5.out.2.2 (cellOf HB.out 0)) rfl HQ5.out.at_ HQ5.out.all (fun k hk c => by have := HH.out.2.2.2.1 k (.inr c); have := HA3.out.1.size; have := H4.out.2.size; omega) H5.out.2.1).mono ?_; rintro e w6 ⟨rfl, H6⟩
       obtain ⟨OD6, hD6, hT6, hO6⟩ := H6
       have HL6 := hid ((H4.out.1.touch H5.out.2.2 (fun _ _ => id)).touch hT6 (fun k q c => HH.out.2.2.1 k q c))
       have HD6 := hid (And.intro hD6 (And.intro hT6 hO6))
       clear hD6 hT6 hO6
       have c56 : w6.cell? ⟨l, 5, none⟩ = some (.slice ga hs4.length gc4) := cellOf HL6.out.box 5
       have HR6 := hid (fun o => row_touch HL6.out.rows ((Touch.refl (fun _ => False) w6).alloc o) (fun _ _ => id)))
    | (at_builtin; refine append_b1 rfl _ _ rfl (.slice ga hs4.length gc4) hs4.length (hs4.map PV) rfl (HR6.out _) w6.heap.size (.slice (some ⟨gb, 0, none⟩) n gc) rfl (cellOf (heap_alloc_new w6 _) 0) rfl (com_len HG.out.1 HL6.out.bytes) ?_; intro v8 w8 G8
       obtain ⟨va, vc, hv8, _, _, _⟩ := own_cq G8.1
       subst hv8
       have HB8 := hid (G8.touch.at' (((Touch.refl (fun _ => False) w6).alloc (.cells #[.slice (some ⟨gb, 0, none⟩) n gc] 56)).at' HL6.out.box id) HL6.out.ne.1)
       have HG8 := hid G8
       clear G8
       have c58 : w8.cell? ⟨l, 5, none⟩ = some (.slice ga hs4.length gc4) := cellOf HB8.out 5
       have f58 : w8.frozen? ⟨l, 5, none⟩ = false := frozen_of_row w8 l 5 _ 83 HB8.out))
  obtain ⟨w9, hw9⟩ : ∃ w9, w9 = w8.setCell ⟨l, 5, none⟩ (.slice va (hs4.length + 1) vc) := ⟨_, rfl⟩
  rw [← hw9]
  have HW9 := hid hw9
  have HB9 := hid (show w9.heap[l]? = some (.cells #[Ptr p, .int .i64 (L.fr : Int), .int .i64 (L.ct : Int), .int .i64 (L.ep : Int), .bool L.cl, .slice va (hs4.length + 1) vc, .int .i64 (us : Int), .int .i64 0, tv4] 83 (0, 0)) by rw [hw9, setCell_eq_setRow w8 l 5 _ 83 _ _ HB8.out, setRow_heap w8 l _ _ 83 _ HB8.out, HK.out.2.2.2.2.1]; rfl)
  obtain ⟨sc, hsc⟩ : ∃ sc, sc = W.secs n := ⟨_, rfl⟩
  have HSO := hid (fun w' => sectorsOf_any n w' (by have := secs_len (Nat.le_refl (W.secs n)); have := HG.out.2.2; omega))
  rw [← hsc] at HSO
  have hsc2 : us + sc ≤ 10000 := by rw [hsc]; have := HG.out.2.2; omega
  have HSC := hid hsc
  clear hw9 hsc
  refine E_begin (S := fun w' : World => w'.heap[l]? = some (.cells #[Ptr p, .int .i64 (L.fr : Int), .int .i64 (L.ct : Int), .int .i64 (L.ep : Int), .bool L.cl, .slice va (hs4.length + 1) vc, .int .i64 (us : Int), .int .i64 0, tv4] 83 (0, 0))) (X := 10) (by kernel_rfl) ?_
  have hS : (fun w' : World => w'.heap[l]? = some (.cells #[Ptr p, .int .i64 (L.fr : Int), .int .i64 (L.ct : Int), .int .i64 (L.ep : Int), .bool L.cl, .slice va (hs4.length + 1) vc, .int .i64 (us : Int), .int .i64 0, tv4] 83 (0, 0))) w9.drew := HB9.out
  refine E_put (i := 0) 53 (v := Ptr l) rfl rfl (by kernel_rfl) (by kernel_rfl) (by kernel_rfl) (by kernel_rfl) (fun _ _ _ h => h) (Or.inl ⟨by rfl, fun w' hw' => ?_⟩) hS ?_
  · go_simp
  simp only [Act.put, List.setIfInBounds_toArray, List.set_cons_zero, List.set_cons_succ]
  refine E_put (i := 1) 54 (v := Ptr l) rfl rfl (by kernel_rfl) (by kernel_rfl) (by kernel_rfl) (by kernel_rfl) (fun _ _ _ h => h) (Or.inl ⟨by rfl, fun w' hw' => ?_⟩) hS ?_
  · go_simp
  simp only [Act.put, List.setIfInBounds_toArray, List.set_cons_zero, List.set_cons_succ]
  refine E_put (i := 2) 55 (v := .pointer (some ⟨l, 6, none⟩)) rfl rfl (by kernel_rfl) (by kernel_rfl) (by kernel_rfl) (by kernel_rfl) (fun _ _ _ h => h) (Or.inl ⟨by rfl, fun w' hw' => ?_⟩) hS ?_
  · go_simp
  simp only [Act.put, List.setIfInBounds_toArray, List.set_cons_zero, List.set_cons_succ]
  refine E_put (i := 3) 56 (v := .int .i64 (us : Int)) rfl rfl (by kernel_rfl) (by kernel_rfl) (by kernel_rfl) (by kernel_rfl) (fun _ _ _ h => h) (Or.inl ⟨by rfl, fun w' hw' => ?_⟩) hS ?_
  · have c : w'.cell? ⟨l, 6, none⟩ = some (.int .i64 (us : Int)) := cellOf (hw') 6; go_simp
  simp only [Act.put, List.setIfInBounds_toArray, List.set_cons_zero, List.set_cons_succ]
  refine E_put (i := 4) 57 (v := .slice (some ⟨gb, 0, none⟩) n gc) rfl rfl (by kernel_rfl) (by kernel_rfl) (by kernel_rfl) (by kernel_rfl) (fun _ _ _ h => h) (Or.inl ⟨by rfl, fun w' hw' => ?_⟩) hS ?_
  · go_simp
  simp only [Act.put, List.setIfInBounds_toArray, List.set_cons_zero, List.set_cons_succ]
  refine E_put (i := 5) 58 (v := .int .i64 (n : Int)) rfl rfl (by kernel_rfl) (by kernel_rfl) (by kernel_rfl) (by kernel_rfl) (fun _ _ _ h => h) (Or.inl ⟨by rfl, fun w' hw' => ?_⟩) hS ?_
  · go_simp
  simp only [Act.put, List.setIfInBounds_toArray, List.set_cons_zero, List.set_cons_succ]
  refine E_call (i := 6) 59 40 #[.int .i64 (n : Int)] (by kernel_rfl) rfl rfl (by rfl) (by go_simp) (HSO.out w9.drew) ?_
  rintro e w10 ⟨rfl, hw10⟩
  rw [hw10]
  have hS2 : (fun w' : World => w'.heap[l]? = some (.cells #[Ptr p, .int .i64 (L.fr : Int), .int .i64 (L.ct : Int), .int .i64 (L.ep : Int), .bool L.cl, .slice va (hs4.length + 1) vc, .int .i64 (us : Int), .int .i64 0, tv4] 83 (0, 0))) _ := HB9.out
  refine ⟨_, rfl, fun _ => hS2, ?_⟩
  clear hS; have hS := hS2; clear hS2
  simp only [Act.put, List.setIfInBounds_toArray, List.set_cons_zero, List.set_cons_succ]
  refine E_put (i := 7) 60 (v := .int .i64 ((us : Int) + sc)) rfl rfl (by kernel_rfl) (by kernel_rfl) (by kernel_rfl) (by kernel_rfl) (fun _ _ _ h => h) (Or.inl ⟨by rfl, fun w' hw' => ?_⟩) hS ?_
  · go_simp; rw [IntKind.wrap_i64]; omega
  simp only [Act.put, List.setIfInBounds_toArray, List.set_cons_zero, List.set_cons_succ]
  refine E_do (i := 8) (some 61) (by kernel_rfl) rfl rfl rfl (fun K hK => ?_)
  go_simp
  refine hK (.pointer (some ⟨l, 0, none⟩)) _ (fun _ => hS) ?_
  clear hK K
  simp only [Act.put, List.setIfInBounds_toArray, List.set_cons_zero, List.set_cons_succ]
  refine E_do (i := 9) (some 62) (by kernel_rfl) rfl rfl rfl (fun K hK => ?_)
  go_simp
  refine hK (.pointer (some ⟨l, 6, none⟩)) _ (fun _ => hS) ?_
  clear hK K
  simp only [Act.put, List.setIfInBounds_toArray, List.set_cons_zero, List.set_cons_succ]
  refine E_do (i := 10) none (by kernel_rfl) rfl rfl rfl (fun K hK => ?_)
  have c6 : w9.drew.cell? ⟨l, 6, none⟩ = some (.int .i64 (us : Int)) := cellOf hS 6
  have f6 : w9.drew.frozen? ⟨l, 6, none⟩ = false := frozen_of_row w9.drew l 6 _ 83 hS
  go_simp
  refine hK (undef) _ (fun h => absurd rfl h) ?_
  clear hK K
  simp only [Act.put]
  refine E_done (by kernel_rfl) ?_ _
  go_wp2
  go_ret
  exact com_up HH.out HA3.out.1 H4.out.2 H5.out.2.2 HL6.out HD6.out HG8.out HB9.out HW9.out HA3.out.2 HK.out HSC.out
end Go.Proofs.YtllkplanjfnnmaaGreatDoor
