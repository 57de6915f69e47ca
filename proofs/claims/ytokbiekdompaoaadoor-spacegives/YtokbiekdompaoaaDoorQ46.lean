/- The pool's call Drop. -/
import Derived.Test.YtokbiekdompaoaaDoorQ29
namespace Go.Proofs.YtokbiekdompaoaaDoor
open Go.RowKit

namespace F
set_option maxRecDepth 100000 in
theorem drp_no (f : Fr) : (drp f).no = f.no := by unfold drp; split <;> rfl
/-- Of frames whose pages are among ns, those that were dirty are that again, the others are gone. -/
def drL (ns : List Int) (L : List Fr) : List Fr := (L.filter fun f => !(ns.contains f.no) || f.dirty).map fun f => if ns.contains f.no then drp f else f
def drS (s : Po) (ns : List Int) : Po := { s with L := drL ns s.L }
set_option maxRecDepth 100000 in
theorem drL_nil (L : List Fr) : drL [] L = L := by
  induction L with
  | nil => rfl
  | cons f L ih => unfold drL at ih ⊢; rw [List.filter_cons]; simp at ih ⊢
set_option maxRecDepth 100000 in
theorem drL_cons (ns : List Int) (f : Fr) (L : List Fr) : drL ns (f :: L) = if ns.contains f.no then (if f.dirty then drp f :: drL ns L else drL ns L) else f :: drL ns L := by
  unfold drL
  rw [List.filter_cons]
  cases h : ns.contains f.no <;> cases hd : f.dirty <;> simp only [h, Bool.not_false, Bool.not_true, Bool.true_or, Bool.false_or, if_true, if_false, Bool.false_eq_true, List.map_cons]
set_option maxRecDepth 100000 in
theorem not_more {ns : List Int} {z x : Int} (h : x ≠ z) : (ns ++ [z]).contains x = ns.contains x := by
  simp [h]
set_option maxRecDepth 100000 in
theorem drL_keep {ns : List Int} {z : Int} (hz : ¬ z ∈ ns) : ∀ {L : List Fr}, (∀ f ∈ L, f.no = z → f.dirty = true) → (drL ns L).map (fun f => if f.no = z then drp f else f) = drL (ns ++ [z]) L
  | [], _ => rfl
  | f :: L, h => by
    have ih := drL_keep hz (L := L) (fun g hg => h g (List.mem_cons_of_mem _ hg))
    rw [drL_cons, drL_cons]
    by_cases e : f.no = z
    · have h1 : ns.contains f.no = false := by rw [e]; simpa using hz
      have h2 : (ns ++ [z]).contains f.no = true := by rw [e]; simp
      have h3 := h f List.mem_cons_self e
      rw [h1, h2, h3]
      simp only [Bool.false_eq_true, if_false, if_true, List.map_cons]
      rw [ih, if_pos e]
    · rw [not_more e]
      cases h1 : ns.contains f.no with
      | false =>
        simp only [Bool.false_eq_true, if_false, List.map_cons]
        rw [ih, if_neg e]
      | true =>
        cases h3 : f.dirty with
        | false => simp only [Bool.false_eq_true, if_false, if_true]; exact ih
        | true =>
          simp only [if_true, List.map_cons]
          rw [ih, drp_no, if_neg e]
set_option maxRecDepth 100000 in
theorem drL_gone {ns : List Int} {z : Int} (hz : ¬ z ∈ ns) : ∀ {L : List Fr}, (∀ f ∈ L, f.no = z → f.dirty = false) → sansF (drL ns L) z = drL (ns ++ [z]) L
  | [], _ => rfl
  | f :: L, h => by
    have ih := drL_gone hz (L := L) (fun g hg => h g (List.mem_cons_of_mem _ hg))
    unfold sansF at ih ⊢
    rw [drL_cons, drL_cons]
    by_cases e : f.no = z
    · have h1 : ns.contains f.no = false := by rw [e]; simpa using hz
      have h2 : (ns ++ [z]).contains f.no = true := by rw [e]; simp
      have h3 := h f List.mem_cons_self e
      rw [h1, h2, h3]
      simp only [Bool.false_eq_true, if_false, if_true, List.filter_cons]
      rw [if_neg (by simp [e]), ih]
    · rw [not_more e]
      cases h1 : ns.contains f.no with
      | false =>
        simp only [Bool.false_eq_true, if_false, List.filter_cons]
        rw [if_pos (by simp [e]), ih]
      | true =>
        cases h3 : f.dirty with
        | false => simp only [Bool.false_eq_true, if_false, if_true]; exact ih
        | true =>
          simp only [if_true, List.filter_cons]
          rw [drp_no, if_pos (by simp [e]), ih]
/-- All that are fresh. -/
theorem drL_all {ns : List Int} : ∀ {L : List Fr}, (∀ f ∈ L, ns.contains f.no = f.fresh) → drL ns L = (L.filter kept).map drp
  | [], _ => rfl
  | f :: L, h => by
    have ih := drL_all (L := L) (fun g hg => h g (List.mem_cons_of_mem _ hg))
    rw [drL_cons, h f List.mem_cons_self, ih, List.filter_cons]
    unfold kept
    cases h1 : f.fresh <;> cases h2 : f.dirty <;> simp [drp, h1]
set_option maxRecDepth 100000 in
theorem nodup_same {L : List Fr} (hn : (L.map (·.no)).Nodup) {f g : Fr} (hf : f ∈ L) (hg : g ∈ L) (e : f.no = g.no) : f = g := by
  rw [List.nodup_iff_pairwise_ne, List.pairwise_map] at hn
  refine Classical.byContradiction fun hne => ?_
  obtain ⟨i, hi, rfl⟩ := List.mem_iff_getElem.1 hf
  obtain ⟨j, hj, rfl⟩ := List.mem_iff_getElem.1 hg
  have hij : i ≠ j := fun e => hne (by subst e; rfl)
  rcases Nat.lt_or_gt_of_ne hij with q | q
  · exact (List.pairwise_iff_getElem.1 hn i j hi hj q) e
  · exact (List.pairwise_iff_getElem.1 hn j i hj hi q) e.symm
set_option maxRecDepth 100000 in
theorem drS_all {s : Po} (hn : (s.L.map (·.no)).Nodup) : drS s (which s isFresh) = dropS s := by
  unfold drS dropS
  rw [drL_all]
  intro f hf
  cases h : f.fresh with
  | true => exact List.contains_iff_mem.2 (mem_which.2 ⟨f, hf, h, rfl⟩)
  | false =>
    have : ¬ f.no ∈ which s isFresh := fun c => by
      obtain ⟨g, hg, h1, h2⟩ := mem_which.1 c
      rw [nodup_same hn hg hf h2] at h1
      unfold isFresh at h1
      rw [h] at h1
      cases h1
    simpa using this
set_option maxRecDepth 100000 in
theorem drL_in {ns : List Int} {L : List Fr} {f : Fr} (hf : f ∈ L) (hn : ¬ f.no ∈ ns) : f ∈ drL ns L := by
  unfold drL
  refine List.mem_map.2 ⟨f, List.mem_filter.2 ⟨hf, by simp [hn]⟩, by simp [hn]⟩
end F
set_option maxRecDepth 100000 in
theorem PoolAt.onceF {w : World} {O : Nat → Prop} {p dp : Nat} {s : F.Po} {hb : Nat} {y : Int} {G : List Tk} (h : PoolAt w O p dp s hb y G) : (s.L.map (·.no)).Nodup := by
  have := h.once
  rw [h.L, List.map_map]
  exact this
set_option maxRecDepth 100000 in
/-- The frame of a fresh page that is still to be dropped. -/
theorem dr_new {w : World} {O : Nat → Prop} {p dp : Nat} {s : F.Po} {ns : List Int} {hb : Nat} {y : Int} {G : List Tk} (h : PoolAt w O p dp (F.drS s ns) hb y G) {z : Int} (hz : z ∈ F.which s F.isFresh) (hn : ¬ z ∈ ns) :
    ∃ t ∈ G, t.f.no = z ∧ lk (G.map Tk.pr) z = .pointer (some ⟨t.b, 0, none⟩) ∧ t.f ∈ s.L ∧ t.f.fresh = true := by
  obtain ⟨f, hf, hm, hno⟩ := F.mem_which.1 hz
  have hin : f ∈ (F.drS s ns).L := F.drL_in hf (by rw [hno]; exact hn)
  rw [h.L] at hin
  obtain ⟨t, ht, e⟩ := List.mem_map.1 hin
  have hn' : t.f.no = z := by rw [e, hno]
  refine ⟨t, ht, hn', ?_, by rw [e]; exact hf, by rw [e]; exact hm⟩
  rw [← hn']; exact lk_some h.mp.once (List.mem_map_of_mem (f := Tk.pr) ht)
/-- A frame that is dropped. -/
def Tk.drp (t : Tk) : Tk := { t with f := F.drp t.f }
theorem Tk.drp_is (u : Tk) : u.drp.b = u.b ∧ u.drp.age = u.age ∧ u.drp.f = F.drp u.f ∧ (F.drp u.f).no = u.f.no ∧ u.drp.bl.Sublist u.bl :=
  ⟨rfl, rfl, rfl, F.drp_no _, List.Sublist.refl _⟩
set_option maxRecDepth 100000 in
theorem PoolAt.drop1 {w w' : World} {O : Nat → Prop} {p dp : Nat} {s : F.Po} {hb : Nat} {y : Int} {G : List Tk} (h : PoolAt w O p dp s hb y G) {t : Tk} (ht : t ∈ G) (hf : t.f.fresh = true) (hd : t.f.dirty = true) (hw : w' = ((w.setCell ⟨t.b, 0, none⟩ (.slice (some ⟨t.wg, t.wo, none⟩) 256 t.wc)).setCell ⟨t.b, 1, none⟩ (.int .i64 1)).setCell ⟨t.b, 3, none⟩ (.slice none 0 0)) :
    PoolAt w' O p dp { s with L := s.L.map fun f => if f.no = t.f.no then F.drp f else f } hb y (G.map fun u => if u.f.no = t.f.no then u.drp else u) ∧ Touch (fun k => k = t.b) w w' := by
  have hT : Touch (fun k => k = t.b) w w' := by rw [hw]; exact Touch.setCell (T := fun k => k = t.b) (Touch.setCell (T := fun k => k = t.b) (Touch.setCell (T := fun k => k = t.b) (Touch.refl _ w) (p := ⟨t.b, 0, none⟩) (fun _ => rfl) _) (p := ⟨t.b, 1, none⟩) (fun _ => rfl) _) (p := ⟨t.b, 3, none⟩) (fun _ => rfl) _
  have hbo : t.both = true := by unfold Tk.both; rw [hf, hd]; rfl
  refine ⟨h.upd ht Tk.drp F.drp Tk.drp_is hT ⟨?_, ?_⟩, hT⟩
  · obtain ⟨g, o, c, h1, h2, h3, h4, h5, h6⟩ := (h.at' t ht).now
    have hws := ((h.at' t ht).was hbo).other h1 t.wp_no hT
    have e1 : F.st t.drp.f = 1 := by show F.st (F.drp t.f) = 1; unfold F.drp F.st; simp [hf, hd]
    have e2 : t.drp.wp = .slice none 0 0 := by show (if (F.drp t.f).fresh && (F.drp t.f).dirty then _ else _) = _; unfold F.drp; rw [hf]; rfl
    have e3 : t.drp.f.now = t.f.was := by show (F.drp t.f).now = _; unfold F.drp; rw [hf]; rfl
    rw [e1, e2, e3]
    refine ⟨t.wg, t.wo, t.wc, ?_, h2, hws.own, hws.cap, hws.len, hws.at'⟩
    rw [hw]
    exact heap_setCell_same _ t.b 3 _ 79 _ (heap_setCell_same _ t.b 1 _ 79 _ (heap_setCell_same w t.b 0 _ 79 _ h1))
  · intro e
    have : t.drp.both = false := by show ((F.drp t.f).fresh && (F.drp t.f).dirty) = false; unfold F.drp; rw [hf]; rfl
    rw [this] at e
    cases e
set_option maxRecDepth 100000 in
theorem eql_some (a : Addr) (n c : Nat) (w : World) : (binOp .eql 55 (.slice (some a) n c) (.slice none 0 0)).run Tryd.prog w = .ok (.bool false) w := by kernel_rfl
set_option maxRecDepth 100000 in
theorem eql_none (w : World) : (binOp .eql 55 (.slice none 0 0) (.slice none 0 0)).run Tryd.prog w = .ok (.bool true) w := by kernel_rfl
/-- On the way through what is dropped. -/
structure DWay (w wr : World) (O : Nat → Prop) (p dp : Nat) (s : F.Po) (hb : Nat) (y : Int) (zs : List Int) (v : Value) (i : Nat) : Prop where
  pool : ∃ G, PoolAt wr O p dp (F.drS s (zs.take i)) hb y G
  row : wr.ownsRow w.heap.size 3 1 v zs.length (I zs)
  touch : Touch O w wr
set_option maxRecDepth 100000 in
set_option maxHeartbeats 4000000 in
theorem bdrop_any {w : World} {O : Nat → Prop} {p dp : Nat} {s : F.Po} {n : Nat} (h : IsPool w O p dp s n) (hO : ∀ k, O k → k < w.heap.size) (hlen : s.L.length ≤ 10000) : Calls Tryd.prog 20 #[Ptr p] w (PPut w O p dp (F.dropS s) n ((F.which s F.isFresh).length : Int)) := by
  have HF := hid (bfresh_any h hlen)
  obtain ⟨hb, y, G, h, hy⟩ := h
  obtain ⟨zs, hzs⟩ : ∃ zs, zs = F.which s F.isFresh := ⟨_, rfl⟩
  rw [← hzs] at HF ⊢
  have HZ := hid hzs
  have HN := hid (show zs.Nodup by rw [hzs]; exact which_nodup h _)
  have HNF := hid h.onceF
  have HP := hid h
  have HY := hid hy
  have HO := hid hO
  have HS := hid (show F.drS s zs = F.dropS s by rw [hzs]; exact F.drS_all h.onceF)
  have hlz : zs.length ≤ 10000 := by
    have : zs.length = ((s.L.filter F.isFresh).map (·.no)).length := by rw [hzs]; exact length_rise _
    rw [this, List.length_map]
    exact Nat.le_trans (List.length_filter_le _ _) hlen
  unfold Ptr at *
  clear h hlen hzs hO hy
  go_enter Tryd.func20, Tryd.ntmps20
  go_upto_region 2 with (go_at_call 32; refine HF.out.mono ?_; rintro e w1 ⟨v1, rfl, H1⟩)
  obtain ⟨a1, k1, rfl, hget⟩ := row_get H1.out.1
  have HW : Hid (DWay w w1 O p dp s hb y zs (.slice a1 zs.length k1) 0) := ⟨⟨G, by
    have e : F.drS s (zs.take 0) = s := by rw [List.take_zero]; unfold F.drS; rw [F.drL_nil]
    rw [e]; exact HP.out.adds H1.out.2⟩, H1.out.1, H1.out.2.mono (fun _ _ c => c.elim)⟩
  clear hget
  generalize hzl : zs.length = zl at *
  have HZL := hid hzl
  clear hzl
  go_wp2_with fail
  go_loopw [11] (fun iv wr => ∃ i : Nat, iv = .int .i64 (i : Int) ∧ i ≤ zl ∧ Hid (DWay w wr O p dp s hb y zs (.slice a1 zl k1) i)) (fun iv _ => zl - (intOf iv).toNat)
  case atStart => exact ⟨0, rfl, Nat.zero_le _, HW.out⟩
  case round =>
    obtain ⟨i, rfl, hi, HI⟩ := hrel
    by_cases hlt : i < zl
    · have hltz : (i : Int) < (zl : Int) := by omega
      have hlt' : i < zs.length := by rw [HZL.out]; exact hlt
      obtain ⟨G1, hG1⟩ := HI.out.pool
      have hrow := HI.out.row
      obtain ⟨a2, k2, e2, hget⟩ := row_get hrow
      obtain ⟨b, o, ea, hbo, hc⟩ := hget i hlt'
      rw [HZL.out] at e2
      cases e2
      subst ea
      have hzn := not_take HN.out hlt'
      obtain ⟨t, htG, htn, hlk, htL, htm⟩ := dr_new hG1 (z := zs[i]) (by rw [← HZ.out]; exact List.getElem_mem hlt') hzn
      have hsame : ∀ f ∈ s.L, f.no = zs[i] → f.dirty = t.f.dirty := fun f hf e => by rw [F.nodup_same HNF.out hf htL (by rw [e, htn])]
      have c4 : wr.cell? ⟨p, 4, none⟩ = some (.map (some hb)) := cellOf hG1.box 4
      have HMP := hid hG1.mp
      have HLK := hid hlk
      obtain ⟨tg, tof, tc, htb, _⟩ := (hG1.at' t htG).now
      have e0 : wr.cell? ⟨t.b, 0, none⟩ = some (.slice (some ⟨tg, tof, none⟩) 256 tc) := cellOf htb 0
      have e1 : wr.cell? ⟨t.b, 1, none⟩ = some (.int .i64 (F.st t.f)) := cellOf htb 1
      have e3 : wr.cell? ⟨t.b, 3, none⟩ = some t.wp := cellOf htb 3
      have f0 : wr.frozen? ⟨t.b, 0, none⟩ = false := frozen_of_row wr t.b 0 _ 79 htb
      have f1 : wr.frozen? ⟨t.b, 1, none⟩ = false := frozen_of_row wr t.b 1 _ 79 htb
      have f3 : wr.frozen? ⟨t.b, 3, none⟩ = false := frozen_of_row wr t.b 3 _ 79 htb
      have HG1 := hid (And.intro hG1 (And.intro htG (And.intro htn htm)))
      obtain ⟨z, hz⟩ : ∃ z, z = zs[i] := ⟨_, rfl⟩
      rw [← hz] at hc HLK HG1 hzn hsame
      have HZI := hid hz
      have HSm := hid (And.intro hsame hzn)
      cases hd : t.f.dirty with
      | true =>
        have hwp : t.wp = .slice (some ⟨t.wg, t.wo, none⟩) 256 t.wc := by unfold Tk.wp Tk.both; rw [htm, hd]; rfl
        rw [hwp] at e3
        have HDd := hid hd
        have heq := eql_some
        have heqn := eql_none
        clear hG1 htG htn hlk htL htm htb hget hrow hz hbo hd hwp hzn hsame
        go_upto_region 6 with (first
          | (at_lookup; refine wpList_lookup_p rfl _ _ 42 rfl 3 76 Tryd.underlying42 Tryd.underlying3 zeroPF hb rfl HMP.out _ rfl ?_; rw [HLK.out])
          | go_in)
        go_wp2_with fail
        go_roundw
        case rel =>
          obtain ⟨q1, q2⟩ := PoolAt.drop1 (w' := ((wr.setCell ⟨t.b, 0, none⟩ (.slice (some ⟨t.wg, t.wo, none⟩) 256 t.wc)).setCell ⟨t.b, 1, none⟩ (.int .i64 1)).setCell ⟨t.b, 3, none⟩ (.slice none 0 0)) HG1.out.1 HG1.out.2.1 HG1.out.2.2.2 HDd.out rfl
          have hOb : O t.b := (HG1.out.1.at' t HG1.out.2.1).now.own
          refine ⟨i + 1, by go_num, by omega, ?_, row_keep HI.out.row q2 (fun k hk e => ?_), HI.out.touch.trans (q2.mono (fun k _ e => by rw [e]; exact hOb))⟩
          · have e9 : F.drS s (zs.take (i + 1)) = { F.drS s (zs.take i) with L := (F.drS s (zs.take i)).L.map fun f => if f.no = t.f.no then F.drp f else f } := by
              rw [take_next' (by rw [HZL.out]; exact hlt)]
              unfold F.drS
              rw [HG1.out.2.2.1, F.drL_keep HSm.out.2 (fun f hf e => by rw [HSm.out.1 f hf e]; exact HDd.out), HZI.out]
            rw [e9]
            exact ⟨_, q1⟩
          · have h1 := (row_low HI.out.row hk).1
            have h2 := HO.out _ hOb
            rw [e] at h1
            omega
        case measure => simp [intOf]; omega
      | false =>
        have hwp : t.wp = .slice none 0 0 := by unfold Tk.wp Tk.both; rw [hd, Bool.and_false]; rfl
        rw [hwp] at e3
        have HDd := hid hd
        have heq := eql_some
        have heqn := eql_none
        clear hG1 htG htn hlk htL htm htb hget hrow hz hbo hd hwp hzn hsame
        go_upto_region 6 with (first
          | (at_lookup; refine wpList_lookup_p rfl _ _ 42 rfl 3 76 Tryd.underlying42 Tryd.underlying3 zeroPF hb rfl HMP.out _ rfl ?_; rw [HLK.out])
          | go_in)
        go_upto_region 7 with fail
        go_wp2_with (first
          | (at_delete; refine wpList_delete_p rfl _ _ 42 3 rfl 76 Tryd.underlying42 Tryd.underlying3 hb rfl HMP.out z rfl ?_; intro w3 hm3 hT3 hs3; have HM3 := hid hm3; have HT3 := hid hT3; clear hm3 hT3 hs3)
          | go_in)
        go_roundw
        case rel =>
          have q1 := HG1.out.1.del z HM3.out HT3.out
          have hOb : O hb := HG1.out.1.oh
          refine ⟨i + 1, by go_num, by omega, ?_, row_keep HI.out.row HT3.out (fun k hk e => ?_), HI.out.touch.trans (HT3.out.mono (fun k _ e => by rw [e]; exact hOb))⟩
          · have e9 : F.drS s (zs.take (i + 1)) = { F.drS s (zs.take i) with L := F.sansF (F.drS s (zs.take i)).L z } := by
              rw [take_next' (by rw [HZL.out]; exact hlt)]
              unfold F.drS
              rw [F.drL_gone HSm.out.2 (fun f hf e => by rw [HSm.out.1 f hf e]; exact HDd.out), HZI.out]
            rw [e9]
            exact ⟨_, q1⟩
          · have h1 := (row_low HI.out.row hk).1
            have h2 := HO.out _ hOb
            rw [e] at h1
            omega
        case measure => simp [intOf]; omega
    · have hltz : ¬ (i : Int) < (zl : Int) := by omega
      obtain rfl : i = zl := by omega
      go_wp2_with fail
      go_ret
      obtain ⟨G1, hG1⟩ := HI.out.pool
      rw [← HZL.out, List.take_length, HS.out] at hG1
      exact ⟨rfl, O, ⟨hb, y, G1, hG1, HY.out⟩, HI.out.touch, fun k hk => .inl hk⟩
end Go.Proofs.YtokbiekdompaoaaDoor
