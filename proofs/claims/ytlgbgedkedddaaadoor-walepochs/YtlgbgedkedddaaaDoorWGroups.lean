/- What a log tells of its groups. -/
import Derived.Test.YtlgbgedkedddaaaDoorWRecs
import Derived.Test.YtlgbgedkedddaaaDoorWLog
namespace Go.Proofs.YtlgbgedkedddaaaDoor
open Go.RowKit

/-- A list of lists of slices in new memory. -/
structure FreshT (B : Nat) (w : World) (v : Value) (t : List Pl) : Prop where
  rows : w.ownsRow 0 33 1 v t.length (t.map GV)
  own : ∀ k, v.ownBlock = some k → B ≤ k
  data : ∀ g ∈ t, GQ w (fun k => B ≤ k ∧ v.ownBlock ≠ some k) g
theorem FreshT.touch {B : Nat} {w w' : World} {T : Nat → Prop} {v : Value} {t : List Pl} (h : FreshT B w v t) (hT : Touch T w w') (hn : ∀ k, B ≤ k → ¬ T k) : FreshT B w' v t :=
  ⟨row_touch h.rows hT (fun k hk => hn k (h.own k hk)), h.own, fun x hx => (h.data x hx).touch hT (fun k q => hn k q.1)⟩
theorem FreshT.adds {B : Nat} {w w' : World} {v : Value} {t : List Pl} (h : FreshT B w v t) (hT : Adds w w') : FreshT B w' v t := h.touch hT (fun _ _ => id)
set_option maxRecDepth 100000 in
/-- One more. -/
theorem FreshT.more {B : Nat} {w w1 w2 : World} {v v' : Value} {t : List Pl} {x : Pl} (h : FreshT B w v t) (hA : Adds w w1) (hG : Grew w1 w2 33 v v' (t.length + 1) (t.map GV ++ [GV x])) (hB : B ≤ w.heap.size) (hx : GQ w1 (fun k => B ≤ k ∧ v.ownBlock ≠ some k) x) : FreshT B w2 v' (t ++ [x]) := by
  have hw := hA.size
  have hlt : ∀ k, k < w1.heap.size → v.ownBlock ≠ some k → v'.ownBlock ≠ some k := fun k hk hn c => by
    rcases hG.2.2 with e | e
    · exact hn (by rw [← e]; exact c)
    · rw [e] at c; cases c; omega
  refine ⟨by rw [List.length_append, List.map_append]; exact hG.1, hG.lt (by omega) h.own, fun y hy => ?_⟩
  rcases List.mem_append.1 hy with hy | hy
  · have q := ((h.data y hy).adds hA).mono (Q' := fun k => B ≤ k ∧ v.ownBlock ≠ some k ∧ v'.ownBlock ≠ some k) (fun k hk q => ⟨q.1, q.2, hlt k hk q.2⟩)
    exact (q.touch hG.touch (fun k q => q.2.1)).mono (fun _ _ q => ⟨q.1, q.2.2⟩)
  · obtain rfl := List.mem_singleton.1 hy
    have q := hx.mono (Q' := fun k => B ≤ k ∧ v.ownBlock ≠ some k ∧ v'.ownBlock ≠ some k) (fun k hk q => ⟨q.1, q.2, hlt k hk q.2⟩)
    exact (q.touch hG.touch (fun k q => q.2.1)).mono (fun _ _ q => ⟨q.1, q.2.2⟩)
set_option maxRecDepth 100000 in
/-- A list that was made. -/
theorem Fresh.pl {B : Nat} {w : World} {v : Value} {hs : List Part} (h : Fresh B w v hs) : ∃ a c, v = .slice a hs.length c ∧ GQ w (fun k => B ≤ k) ⟨a, c, hs⟩ := by
  obtain ⟨a, c, e, h1, h2, h3⟩ := own_cq h.rows
  exact ⟨a, c, e, ⟨h3.mono (fun k _ q => h.own k q), h2, fun x hx => (h.data x hx).mono (fun _ _ q => q.1)⟩⟩
def PGroups (w : World) (gs : List (List (List UInt8))) (e : Ending) (w' : World) : Prop := ∃ v t, e = .returned v ∧ Hid (FreshT w.heap.size w' v t ∧ t.map Pl.bs = gs ∧ Adds w w')

set_option maxRecDepth 100000 in
theorem groups_nil (w : World) : Calls Tryd.prog 12 #[.pointer none] w (Tells (.slice none 0 0) w) := by
  go_enter Tryd.func12, Tryd.ntmps12
  go_wp2
  go_ret
  exact ⟨rfl, rfl⟩

set_option maxRecDepth 100000 in
set_option maxHeartbeats 2000000 in
theorem lgroups_any {w : World} {O : Nat → Prop} {l p : Nat} {L : LS} (h : IsLog w O l p L) (hb : ∀ g ∈ L.G, g.length ≤ 1000000) (hn : L.G.length ≤ 10000) : Calls Tryd.prog 12 #[Ptr l] w (PGroups w (L.G.map W.recs)) := by
  obtain ⟨gv, tv, hs, h⟩ := h
  obtain ⟨ga, gc, hgv, hgc, hga, hgq⟩ := own_cq h.rows
  subst hgv
  obtain ⟨n, hnl⟩ : ∃ n, n = hs.length := ⟨_, rfl⟩
  have hn2 : n ≤ 10000 := by rw [hnl, show hs.length = L.G.length by rw [← h.bytes, List.length_map]]; exact hn
  have c5 : w.cell? ⟨l, 5, none⟩ = some (.slice ga n gc) := by rw [hnl]; exact cellOf h.box 5
  obtain ⟨i3, hi3, hz0, hz1, hz2⟩ := infoBB
  have B2 := hid (show i3.bytes * n ≤ 281474976710656 by rw [hz2]; omega)
  have B3 := hid (show n ≤ maxLen by unfold maxLen; omega)
  have HKE := hid (show ∀ w', w.grownBy w' none → w'.cell? ⟨l, 5, none⟩ = some (.slice ga n gc) ∧ Adds w w' from fun w' hg =>
    have hA : Adds w w' := Touch.grown (Touch.refl _ w) hg (fun k hk _ => by cases hk)
    ⟨below_adds hA c5, hA⟩)
  have HD := hid (show ∀ k (hk : k < n), ∃ x, hs[k]? = some x ∧ x.bs.length ≤ 1000000 ∧ PQ w (fun _ => True) x ∧ ∃ b o, ga = some ⟨b, o, none⟩ ∧ w.cell? ⟨b, o + k, none⟩ = some (.slice x.a x.bs.length x.cap) from fun k hk => by
    have hx : hs[k]? = some (hs[k]'(by omega)) := List.getElem?_eq_getElem (by omega)
    obtain ⟨b, o, e, _, hc⟩ := hgq k (PV (hs[k]'(by omega))) (by rw [List.getElem?_map, hx]; rfl)
    have hm : (hs[k]'(by omega)) ∈ hs := List.getElem_mem _
    exact ⟨_, hx, hb _ (by rw [← h.bytes]; exact List.mem_map_of_mem hm), (h.data _ hm).mono (fun _ _ _ => trivial), b, o, e, hc⟩)
  have HB := hid (show L.G.map W.recs = (hs.map (·.bs)).map W.recs by rw [h.bytes])
  have HL := hid hnl
  have HR := hid (fun (wr : World) (x : Part) (hl : x.bs.length ≤ 1000000) (hx : PQ wr (fun _ => True) x) => records_any x.a x.bs x.bs.length x.cap rfl wr hl hx.non hx.at_.at)
  clear hb hgq hga hgc h hnl hn
  go_enter Tryd.func12, Tryd.ntmps12
  go_wp2_with (first
    | (at_make; refine wpList_make_own _ rfl _ _ 41 rfl 0 33 i3 (.slice none 0 0) 1 Tryd.underlying41 hi3 hz0 hz1 .i64 .i64 _ n rfl rfl rfl B2.out B3.out (Nat.zero_le _) ?_; intro w2 hown2 hg2; obtain ⟨c5', hA2⟩ := HKE.out w2 hg2
       have H2 := hid (And.intro hown2 hA2); clear hown2 hA2))
  go_loopw [3, 19] (fun v i wr => ∃ (k : Nat) (t : List Pl), k ≤ n ∧ i = .int .i64 (k : Int) ∧ t.length = k ∧ Hid (FreshT w.heap.size wr v t ∧ t.map Pl.bs = ((hs.map (·.bs)).map W.recs).take k ∧ Adds w wr)) (fun _ i _ => n - (intOf i).toNat)
  case atStart => exact ⟨0, [], Nat.zero_le _, rfl, rfl, ⟨H2.out.1, fun k hk => by cases hk; exact Nat.le_refl _, fun _ hx => (by cases hx)⟩, rfl, H2.out.2⟩
  case round =>
    obtain ⟨k, t, hk, rfl, hlen, HI⟩ := hrel
    by_cases hlt : k < n
    · obtain ⟨x, hx, hxl, hxq, b, o, rfl, hxc⟩ := HD.out k hlt
      have hc : wr.cell? ⟨b, o + k, none⟩ = some (.slice x.a x.bs.length x.cap) := below_adds HI.out.2.2 hxc
      have HX := hid (HR.out wr x hxl (hxq.adds HI.out.2.2))
      have HN := hid (And.intro hx hlen)
      clear hx hxl hxq hxc HD hlen
      go_wp2_with (first
        | (go_at_call 34; refine HX.out.mono ?_; rintro e w3 ⟨v3, hs3, rfl, H3⟩
           obtain ⟨a3, c3, hv3, hq3⟩ := H3.out.1.pl
           subst hv3
           have HA3 := hid (show (w3.alloc (.cells #[.slice a3 hs3.length c3] 33)).ownsRow 0 33 1 u3 k (t.map GV) by have q := row_touch HI.out.1.rows (H3.out.2.2.alloc (.cells #[.slice a3 hs3.length c3] 33)) (fun _ _ => id); rw [HN.out.2] at q; exact q)
           have HA4 := hid (show (w3.alloc (.cells #[.slice a3 hs3.length c3] 33)).cell? ⟨w3.heap.size, 0, none⟩ = some (.slice a3 hs3.length c3) from cellOf (heap_alloc_new w3 _) 0)
           have HQ3 := hid hq3
           clear hq3)
        | (at_builtin; refine append_bb1 rfl _ _ rfl u3 k (t.map GV) rfl HA3.out w3.heap.size (.slice a3 hs3.length c3) rfl HA4.out rfl (by omega) ?_; intro v5 w5 G5; have HG := hid G5; clear G5))
      go_roundw
      case rel =>
        have hAy : Adds wr (w3.alloc (.cells #[.slice a3 hs3.length c3] 33)) := H3.out.2.2.alloc _
        have hws := HI.out.2.2.size
        refine ⟨k + 1, t ++ [⟨a3, c3, hs3⟩], by omega, by go_num, by simp [HN.out.2], ?_, ?_, ?_⟩
        · refine HI.out.1.more hAy (by rw [HN.out.2]; exact HG.out) hws ?_
          exact (HQ3.out.adds ((Touch.refl _ w3).alloc _)).mono (fun j _ q => ⟨by omega, fun c => by have := (row_low HI.out.1.rows c).2; omega⟩)
        · rw [List.map_append, HI.out.2.1, List.take_add_one, List.getElem?_map, List.getElem?_map, HN.out.1]
          simp only [Option.map_some, Option.toList_some, List.map_cons, List.map_nil]
          rw [← H3.out.2.1]; rfl
        · exact (HI.out.2.2.trans hAy).then HG.out.touch (fun j hj c => by have := HI.out.1.own j c; omega)
      case measure => simp [intOf]; omega
    · obtain rfl : k = n := by omega
      clear hlen
      go_wp2_with fail
      go_ret
      refine ⟨_, t, rfl, HI.out.1, ?_, HI.out.2.2⟩
      rw [HI.out.2.1, HB.out, List.take_of_length_le (by rw [List.length_map, List.length_map, ← HL.out]; exact Nat.le_refl _)]
end Go.Proofs.YtlgbgedkedddaaaDoor
