/- Texts put together: FGet, FPut, FPut2, FWhich, FAcc, FAcc2, FWrite, FFlush, FOpen. -/
import Derived.Test.YtjlennpoaefllaaGreatDoorQ19
/- The pool's call Get. -/
namespace Go.Proofs.YtjlennpoaefllaaGreatDoor
open Go.RowKit

set_option maxRecDepth 100000 in
theorem gs_perm {G : List Tk} (hn : (G.map (fun t => t.f.no)).Nodup) {t : Tk} (ht : t ∈ G) : G.Perm (gs G t.f.no ++ [t]) := by
  induction G with
  | nil => cases ht
  | cons x G ih =>
    obtain ⟨h1, h2⟩ := List.nodup_cons.1 hn
    unfold gs
    rw [List.filter_cons]
    rcases List.mem_cons.1 ht with rfl | ht
    · have : G.filter (fun u => decide (u.f.no ≠ t.f.no)) = G := by
        rw [List.filter_eq_self]
        intro u hu
        have : u.f.no ≠ t.f.no := fun e => h1 (List.mem_map.2 ⟨u, hu, e⟩)
        simp [this]
      rw [this]
      simp only [ne_eq, not_true_eq_false, decide_false, Bool.false_eq_true, if_false]
      exact List.perm_append_comm (l₁ := [t])
    · have hne : x.f.no ≠ t.f.no := fun e => h1 (List.mem_map.2 ⟨t, ht, e.symm⟩)
      simp only [ne_eq, hne, not_false_eq_true, decide_true, if_true]
      exact List.Perm.cons x (ih h2 ht)
set_option maxRecDepth 100000 in
theorem perm_flat {G H : List Tk} (h : G.Perm H) : (G.flatMap Tk.bl).Perm (H.flatMap Tk.bl) := by
  induction h with
  | nil => exact List.Perm.refl _
  | cons x _ ih => rw [List.flatMap_cons, List.flatMap_cons]; exact List.Perm.append_left _ ih
  | swap x y l => rw [List.flatMap_cons, List.flatMap_cons, List.flatMap_cons, List.flatMap_cons, ← List.append_assoc, ← List.append_assoc]; exact List.Perm.append_right _ List.perm_append_comm
  | trans _ _ h1 h2 => exact h1.trans h2
set_option maxRecDepth 100000 in
theorem gs_nodup {w : World} {O : Nat → Prop} {p dp : Nat} {s : F.Po} {hb : Nat} {y : Int} {G : List Tk} (h : PoolAt w O p dp s hb y G) {t : Tk} (ht : t ∈ G) : ((gs G t.f.no).flatMap Tk.bl ++ t.bl).Nodup := by
  have := (perm_flat (gs_perm h.once ht)).nodup_iff.1 h.nd
  rw [List.flatMap_append, List.flatMap_cons, List.flatMap_nil, List.append_nil] at this
  exact this
set_option maxRecDepth 100000 in
theorem PoolAt.bl_lt {w : World} {O : Nat → Prop} {p dp : Nat} {s : F.Po} {hb : Nat} {y : Int} {G : List Tk} (h : PoolAt w O p dp s hb y G) {t : Tk} (ht : t ∈ G) {k : Nat} (hk : k ∈ t.bl) : k < w.heap.size ∧ O k := by
  have q := h.at' t ht
  obtain rfl := List.mem_singleton.1 hk
  exact ⟨q.now.lt, by obtain ⟨_, _, _, _, h2, _⟩ := q.now; exact h2⟩
/-- What Get tells, and leaves. -/
def PGet (w : World) (O : Nat → Prop) (p dp : Nat) (s : F.Po) (n : Nat) (z : Nat) (bs : List UInt8) (e : Ending) (w' : World) : Prop := ∃ v, e = .returned (.tuple #[v, .int .i64 (z : Int)]) ∧ Hid (w'.ownsRow w.heap.size 5 1 v bs.length (S bs) ∧ ∃ O', IsPool w' O' p dp s n ∧ Touch O w w' ∧ (∀ k, O' k → O k ∨ (w.heap.size ≤ k ∧ k < w'.heap.size)) ∧ ∀ k, v.ownBlock = some k → ¬ O' k)
set_option maxRecDepth 100000 in
/-- Behind hold: the page is told as a copy. -/
theorem get_fin {w w1 w2 w3 : World} {O O1 : Nat → Prop} {p dp : Nat} {s s' : F.Po} {hb : Nat} {y : Int} {n : Nat} {t : Tk} {v : Value} (hO1 : ∀ k, O k → k < w.heap.size) (hA : Adds w w1) (hO : ∀ k, O1 k → O k ∨ (w.heap.size ≤ k ∧ k < w1.heap.size)) (hp : ∃ G, PoolAt w2 O1 p dp s' hb (y + 1) G) (hT : Touch (fun k => k = p ∨ k = hb ∨ k = t.b) w1 w2)
    (hin : O1 p ∧ O1 hb ∧ O1 t.b) (hy : y + 1 ≤ (n : Int)) (hv : w3.ownsRow w2.heap.size 5 1 v t.f.now.length (S t.f.now)) (hA3 : Adds w2 w3) (hs : s' = s) : PGet w O p dp s n 0 t.f.now (.returned (.tuple #[v, .int .i64 0])) w3 := by
  have z1 := hA.size
  have z2 := hT.size
  have z3 := hA3.size
  obtain ⟨G, hG⟩ := hp
  subst hs
  refine ⟨v, rfl, row_base hv (fun j hj => by have := (row_low hv hj).1; omega), O1, ⟨hb, y + 1, G, hG.adds hA3, hy⟩, ?_, fun k hk => ?_, fun k hk c => ?_⟩
  · refine (hA.mono (fun _ _ c => c.elim)).then ((hT.mono (U := fun k => O1 k) (fun k _ e => ?_)).trans (hA3.mono (fun _ _ c => c.elim))) (fun k hk c => ?_)
    · rcases e with e | e | e
      · rw [e]; exact hin.1
      · rw [e]; exact hin.2.1
      · rw [e]; exact hin.2.2
    · rcases hO k c with c | c
      · exact c
      · omega
  · rcases hO k hk with c | c
    · exact .inl c
    · exact .inr ⟨c.1, by omega⟩
  · have := (row_low hv hk).1
    rcases hO k c with c | c
    · have := hO1 k c
      omega
    · omega
set_option maxRecDepth 100000 in
theorem need_at {s : F.Po} {no : Int} {f : F.Fr} (h : F.at? s.L no = some f) : F.need s no = false ∧ F.room s no = true := by
  have h1 : F.need s no = false := by unfold F.need; rw [h]; rfl
  exact ⟨h1, by unfold F.room; rw [h1]; rfl⟩
set_option maxRecDepth 100000 in
/-- What is owned lies in memory. -/
theorem FrAt.own {w : World} {O : Nat → Prop} {b : Nat} {bs : List UInt8} {s age : Int} {wp : Value} (h : FrAt w O b bs s age wp) : O b := by
  obtain ⟨_, _, _, _, h2, _⟩ := h
  exact h2
set_option maxRecDepth 100000 in
set_option maxHeartbeats 4000000 in
theorem get_bad {w : World} {O : Nat → Prop} {p dp : Nat} {s : F.Po} {hb : Nat} {y : Int} {G : List Tk} {n : Nat} (h : PoolAt w O p dp s hb y G) (hy : y ≤ (n : Int)) (no : Int) (hno : F.inPool s no = false) : Calls Tryz.prog 114 #[Ptr p, .int .i64 no] w (PGet w O p dp s n 2 []) := by
  have HA := hid (basked_any h no)
  rw [hno] at HA
  have HP := hid (show IsPool w O p dp s n from ⟨hb, y, G, h, hy⟩)
  clear h hno
  go_enter Tryz.func114, Tryz.ntmps114
  go_wp2_with (go_at_call 90; refine HA.out.mono ?_; rintro e _ ⟨rfl, hw⟩; rw [hw]; clear hw)
  go_ret2
  exact ⟨_, rfl, World.ownsRow_nil _ _ _ _, O, HP.out, Touch.refl _ _, fun k hk => .inl hk, fun k hk => by cases hk⟩
set_option maxRecDepth 100000 in
set_option maxHeartbeats 4000000 in
theorem get_held {w : World} {O : Nat → Prop} {p dp : Nat} {s : F.Po} {hb : Nat} {y : Int} {G : List Tk} {n : Nat} (h : PoolAt w O p dp s hb y G) (hy : y + 1 ≤ (n : Int)) (hn : n ≤ 1000000) (hO : ∀ k, O k → k < w.heap.size) (t : Tk) (ht : t ∈ G) (hno : F.inPool s t.f.no = true) : Calls Tryz.prog 114 #[Ptr p, .int .i64 t.f.no] w (PGet w O p dp (F.held s t.f.no t.f) n 0 t.f.now) := by
  have HA := hid (basked_any h t.f.no)
  rw [hno] at HA
  have hf : F.at? s.L t.f.no = some t.f ∧ lk (G.map Tk.pr) t.f.no = .pointer (some ⟨t.b, 0, none⟩) := by
    rcases h.find t.f.no with ⟨u, hu, e, h1, h2⟩ | ⟨h1, _⟩
    · rw [mem_nodup h.once hu ht e] at h1 h2; exact ⟨h1, h2⟩
    · exact absurd rfl (h1 t ht)
  have hroom := (need_at hf.1).2
  have HH := hid (bhold_any h (by omega) (h.at' t ht) (gs_nodup h ht) hroom)
  have c4 : w.cell? ⟨p, 4, none⟩ = some (.map (some hb)) := cellOf h.box 4
  have HMP := hid h.mp
  have HLK := hid hf.2
  have HP := hid h
  have HT := hid (h.at' t ht)
  have HOO := hid hO
  have HY := hid (And.intro hy hn)
  unfold Ptr at *
  clear h hno hf hroom hO hy
  go_enter Tryz.func114, Tryz.ntmps114
  go_upto_region 11 with (first
    | (go_at_call 90; refine HA.out.mono ?_; rintro e _ ⟨rfl, hw⟩; rw [hw]; clear hw)
    | (at_lookup; refine wpList_lookup_p rfl _ _ 87 rfl 3 131 Tryz.underlying87 Tryz.underlying3 zeroPF hb rfl HMP.out _ rfl ?_; rw [HLK.out])
    | (go_at_call 93; refine HH.out.mono ?_; rintro e w2 ⟨rfl, H2⟩)
    | go_in)
  obtain ⟨G', hG', hm', hT2⟩ := H2.out
  obtain ⟨g, o, c, hbx, _, _, hc, hl, hAt⟩ := (hG'.at' _ hm').now
  have d0 : w2.cell? ⟨t.b, 0, none⟩ = some (.slice (some ⟨g, o, none⟩) 256 c) := cellOf hbx 0
  have HCl := hid (show Calls Tryz.prog 140 #[.slice (some ⟨g, o, none⟩) 256 c] w2 (dPClone w2 t.f.now) by
    have q := slicesClone_any g o c t.f.now w2 (by rw [show t.f.now.length = 256 from hl]; decide) (by rw [show t.f.now.length = 256 from hl]; decide) (rangeOf hAt)
    rw [show t.f.now.length = 256 from hl] at q
    exact q)
  have HG' := hid hG'
  have HT2 := hid hT2
  clear hbx hAt hm' hG' hT2 hl
  go_wp2_with (go_at_call 140; refine HCl.out.mono ?_; rintro e w3 ⟨v3, rfl, h31, h32, h33⟩)
  go_ret2
  exact get_fin (t := t) HOO.out (Touch.refl _ w) (fun k hk => .inl hk) ⟨_, HG'.out⟩ HT2.out ⟨HP.out.op, HP.out.oh, HT.out.now.own⟩ HY.out.1 h31 h33 rfl
set_option maxRecDepth 100000 in
set_option maxHeartbeats 4000000 in
theorem get_new {w : World} {O OD : Nat → Prop} {p dp : Nat} {s : F.Po} {hb : Nat} {y : Int} {G : List Tk} {D : dSt} {n k : Nat} (h : PoolAt w O p dp s hb y G) (hy : y + 1 ≤ (n : Int)) (hn : n ≤ 1000000) (hO : ∀ k, O k → k < w.heap.size) (hd : IsDO w OD dp D) (hk : DOk D k) (hk9 : k ≤ 900) (hok : POk s D) (hTb : Tab w) (no : Int) (hno : F.inPool s no = true) (hat : F.at? s.L no = none) :
    Calls Tryz.prog 114 #[Ptr p, .int .i64 no] w (PGet w O p dp (if F.rdE s D no = 0 then F.held s no ⟨no, F.rdB s D no, [], false, false⟩ else s) n (F.rdE s D no) (if F.rdE s D no = 0 then F.rdB s D no else [])) := by
  have HA := hid (basked_any h no)
  rw [hno] at HA
  have hlk : (∀ t ∈ G, t.f.no ≠ no) ∧ lk (G.map Tk.pr) no = .pointer none := by
    rcases h.find no with ⟨u, hu, e, h1, h2⟩ | ⟨h1, _, h2⟩
    · rw [hat] at h1; cases h1
    · exact ⟨h1, h2⟩
  have hin : 0 ≤ no ∧ no < s.ct := by simpa [F.inPool] using hno
  have HRd := hid (bread_any h hd hk hk9 hok hTb no hin)
  have HRm := hid (show F.rdE s D no = 0 → F.room s no = true by
    intro e
    unfold F.rdE at e
    split at e
    · assumption
    · cases e)
  have c4 : w.cell? ⟨p, 4, none⟩ = some (.map (some hb)) := cellOf h.box 4
  have HMP := hid h.mp
  have HLK := hid hlk.2
  have HNo := hid hlk.1
  have HP := hid h
  have HOO := hid hO
  have HY := hid (And.intro hy hn)
  unfold Ptr at *
  clear h hno hlk hO hy hd hk hok hTb hat hin
  generalize F.rdE s D no = z at *
  generalize F.rdB s D no = bs at *
  by_cases hz : z = 0
  · rw [if_pos hz, if_pos hz]
    have hroom := hid (HRm.out hz)
    have HZ := hid hz
    go_enter Tryz.func114, Tryz.ntmps114
    go_upto_region 8 with (first
      | (go_at_call 90; refine HA.out.mono ?_; rintro e _ ⟨rfl, hw⟩; rw [hw]; clear hw)
      | (at_lookup; refine wpList_lookup_p rfl _ _ 87 rfl 3 131 Tryz.underlying87 Tryz.underlying3 zeroPF hb rfl HMP.out _ rfl ?_; rw [HLK.out])
      | (go_at_call 139; refine HRd.out.mono ?_; rintro e w1 ⟨v1, rfl, H1⟩)
      | go_in)
    subst hz
    obtain ⟨b, hv1, hfr, hA1⟩ : ∃ b, v1 = .pointer (some ⟨b, 0, none⟩) ∧ FrAt w1 (fun k => w.heap.size ≤ k ∧ k < w1.heap.size) b bs 0 0 (.slice none 0 0) ∧ Adds w w1 := by
      rcases H1.out with ⟨c, _⟩ | ⟨_, c⟩
      · exact absurd rfl c
      · exact c
    subst hv1
    obtain ⟨t, ht⟩ : ∃ t : Tk, t = ⟨⟨no, bs, [], false, false⟩, b, 0, 0, 0, 0⟩ := ⟨_, rfl⟩
    have hbl : t.bl = [b] := by rw [ht]; rfl
    have hno : t.f.no = no := by rw [ht]
    have hP1 : PoolAt w1 (fun k => O k ∨ (w.heap.size ≤ k ∧ k < w1.heap.size)) p dp s hb y G := (HP.out.adds hA1).mono (fun _ c => .inl c)
    have hT1 : TkAt w1 (fun k => O k ∨ (w.heap.size ≤ k ∧ k < w1.heap.size)) t := by
      rw [ht]
      exact ⟨hfr.mono (fun _ c => .inr c), fun e => by cases e⟩
    have hap : ((gs G t.f.no).flatMap Tk.bl ++ t.bl).Nodup := by
      rw [hbl, List.nodup_append]
      refine ⟨HP.out.nd.sublist (sub_flat (gs_sub G _)), by simp, fun x hx z hz e => ?_⟩
      obtain rfl := List.mem_singleton.1 hz
      obtain ⟨u, hu, hxu⟩ := List.mem_flatMap.1 hx
      have := (HP.out.bl_lt (gs_mem.1 hu).1 hxu).1
      have := hfr.own.1
      omega
    have HH := hid (show Calls Tryz.prog 93 #[.pointer (some ⟨p, 0, none⟩), .int .i64 no, .pointer (some ⟨b, 0, none⟩)] w1 (PHold w1 (fun k => O k ∨ (w.heap.size ≤ k ∧ k < w1.heap.size)) p dp s hb y t) by
      have q := bhold_any hP1 (by have := HY.out; omega) hT1 hap (by rw [hno]; exact hroom.out)
      rw [hno, show t.b = b by rw [ht]] at q
      exact q)
    have HT1 := hid hT1
    have HA1 := hid hA1
    have HTq := hid ht
    have HN := hid hno
    clear ht hbl hno hP1 hT1 hap hfr hA1
    go_upto_region 11 with (go_at_call 93; refine HH.out.mono ?_; rintro e w2 ⟨rfl, H2⟩)
    obtain ⟨G', hG', hm', hT2⟩ := H2.out
    obtain ⟨g, o, c, hbx, _, _, hc, hl, hAt⟩ := (hG'.at' _ hm').now
    have d0 : w2.cell? ⟨b, 0, none⟩ = some (.slice (some ⟨g, o, none⟩) 256 c) := by have q := cellOf hbx 0; rw [show ({ t with age := y + 1 } : Tk).b = b by rw [HTq.out]] at q; exact q
    have HCl := hid (show Calls Tryz.prog 140 #[.slice (some ⟨g, o, none⟩) 256 c] w2 (dPClone w2 t.f.now) by
      have q := slicesClone_any g o c t.f.now w2 (by rw [show t.f.now.length = 256 from hl]; decide) (by rw [show t.f.now.length = 256 from hl]; decide) (rangeOf hAt)
      rw [show t.f.now.length = 256 from hl] at q
      exact q)
    have HG' := hid hG'
    have HT2 := hid hT2
    clear hbx hAt hm' hG' hT2 hl
    go_wp2_with (go_at_call 140; refine HCl.out.mono ?_; rintro e w3 ⟨v3, rfl, h31, h32, h33⟩)
    go_ret2
    have q := get_fin (t := t) (s' := F.held s t.f.no t.f) (s := F.held s no ⟨no, bs, [], false, false⟩) HOO.out HA1.out (fun k hk => hk) ⟨_, HG'.out⟩ HT2.out ⟨.inl HP.out.op, .inl HP.out.oh, HT1.out.now.own⟩ HY.out.1 h31 h33 (by rw [HTq.out])
    rw [show t.f.now = bs by rw [HTq.out]] at q
    exact q
  · rw [if_neg hz, if_neg hz]
    have hz' : ((z : Int) != 0) = true := by simp; omega
    have HZ := hid hz
    clear hz
    go_enter Tryz.func114, Tryz.ntmps114
    go_wp2_with (first
      | (go_at_call 90; refine HA.out.mono ?_; rintro e _ ⟨rfl, hw⟩; rw [hw]; clear hw)
      | (at_lookup; refine wpList_lookup_p rfl _ _ 87 rfl 3 131 Tryz.underlying87 Tryz.underlying3 zeroPF hb rfl HMP.out _ rfl ?_; rw [HLK.out])
      | (go_at_call 139; refine HRd.out.mono ?_; rintro e w1 ⟨v1, rfl, H1⟩)
      | go_in)
    go_ret2
    obtain ⟨_, hA1⟩ : v1 = .pointer none ∧ Adds w w1 := by
      rcases H1.out with ⟨_, c⟩ | ⟨c, _⟩
      · exact c
      · exact absurd c HZ.out
    exact ⟨_, rfl, World.ownsRow_nil _ _ _ _, O, ⟨hb, y, G, HP.out.adds hA1, by have := HY.out; omega⟩, hA1.mono (fun _ _ c => c.elim), fun k hk => .inl hk, fun k hk => by cases hk⟩
set_option maxRecDepth 100000 in
/-- Get, by the pool's and the disk's states. -/
theorem bget_any {w : World} {O OD : Nat → Prop} {p dp : Nat} {s : F.Po} {D : dSt} {n k : Nat} (h : IsPool w O p dp s n) (hn : n + 1 ≤ 1000000) (hO : ∀ k, O k → k < w.heap.size) (hd : IsDO w OD dp D) (hk : DOk D k) (hk9 : k ≤ 900) (hok : POk s D) (hTb : Tab w) (no : Int) :
    Calls Tryz.prog 114 #[Ptr p, .int .i64 no] w (PGet w O p dp (F.getS s D no) (n + 1) (F.getE s D no) (F.getB s D no)) := by
  obtain ⟨hb, y, G, h, hy⟩ := h
  cases hno : F.inPool s no with
  | false =>
    have e1 : F.getE s D no = 2 := by unfold F.getE; rw [hno]; rfl
    have e2 : F.getS s D no = s := by unfold F.getS; rw [e1]; rfl
    have e3 : F.getB s D no = [] := by unfold F.getB; rw [e1]; rfl
    rw [e1, e2, e3]
    exact get_bad h (by omega) no hno
  | true =>
    rcases h.find no with ⟨t, ht, rfl, h1, _⟩ | ⟨_, h1, _⟩
    · have e1 : F.getE s D t.f.no = 0 := by unfold F.getE; rw [hno, h1]; rfl
      have e4 : F.getF s D t.f.no = t.f := by unfold F.getF; rw [h1]
      have e2 : F.getS s D t.f.no = F.held s t.f.no t.f := by unfold F.getS; rw [e1, e4]; rfl
      have e3 : F.getB s D t.f.no = t.f.now := by unfold F.getB; rw [e1, e4]; rfl
      rw [e1, e2, e3]
      exact get_held h (by omega) hn hO t ht hno
    · have e1 : F.getE s D no = F.rdE s D no := by unfold F.getE; rw [hno, h1]; rfl
      have e4 : F.getF s D no = ⟨no, F.rdB s D no, [], false, false⟩ := by unfold F.getF; rw [h1]
      have e2 : F.getS s D no = if F.rdE s D no = 0 then F.held s no ⟨no, F.rdB s D no, [], false, false⟩ else s := by unfold F.getS; rw [e1, e4]
      have e3 : F.getB s D no = if F.rdE s D no = 0 then F.rdB s D no else [] := by unfold F.getB; rw [e1, e4]
      rw [e1, e2, e3]
      exact get_new h (by omega) hn hO hd hk hk9 hok hTb no hno h1
end Go.Proofs.YtjlennpoaefllaaGreatDoor

/- The pool's call Put. -/
namespace Go.Proofs.YtjlennpoaefllaaGreatDoor
open Go.RowKit

/-- What a call leaves of a pool. -/
def PPut (w : World) (O : Nat → Prop) (p dp : Nat) (s : F.Po) (n : Nat) (z : Int) (e : Ending) (w' : World) : Prop := e = .returned (.int .i64 z) ∧ Hid (∃ O', IsPool w' O' p dp s n ∧ Touch O w w' ∧ ∀ k, O' k → O k ∨ (w.heap.size ≤ k ∧ k < w'.heap.size))
/-- What a page was as a dirty frame. -/
structure WasAt (w : World) (O : Nat → Prop) (s : F.Po) (G : List Tk) (no : Int) (v : Value) (wg wo wc : Nat) : Prop where
  is : v = if F.wasD s no then .slice (some ⟨wg, wo, none⟩) 256 wc else .slice none 0 0
  at' : F.wasD s no = true → WsAt w O wg wo wc (F.wasB s no)
  call : ∀ w', Adds w w' → Calls Tryz.prog 94 #[lk (G.map Tk.pr) no] w' (Tells v w')
set_option maxRecDepth 100000 in
theorem PoolAt.wasAt {w : World} {O : Nat → Prop} {p dp : Nat} {s : F.Po} {hb : Nat} {y : Int} {G : List Tk} (h : PoolAt w O p dp s hb y G) (no : Int) : ∃ v wg wo wc, WasAt w O s G no v wg wo wc := by
  rcases h.find no with ⟨t, ht, rfl, h1, h2⟩ | ⟨_, h1, h2⟩
  · have hD : F.wasD s t.f.no = t.f.dirty := by unfold F.wasD; rw [h1]
    obtain ⟨v, g, o, c, q1, q2⟩ := asDirty_any (h.at' t ht)
    refine ⟨v, g, o, c, by rw [hD]; exact q1.is, fun e => ?_, fun w' hA => by rw [h2]; exact q2 w' hA⟩
    rw [hD] at e
    have hB : F.wasB s t.f.no = if t.f.fresh then t.f.was else t.f.now := by unfold F.wasB; rw [h1]; simp [e]
    rw [hB]
    exact q1.at' e
  · have hD : F.wasD s no = false := by unfold F.wasD; rw [h1]
    refine ⟨.slice none 0 0, 0, 0, 0, by rw [hD]; rfl, (by rw [hD]; intro c; cases c), fun w' _ => ?_⟩
    rw [h2]; exact asDirty_nil w'
set_option maxRecDepth 100000 in
/-- A new frame is held. -/
theorem put_hold {w w2 w3 : World} {O : Nat → Prop} {p dp : Nat} {s : F.Po} {hb : Nat} {y : Int} {G : List Tk} {n : Nat} (h : PoolAt w O p dp s hb y G) (hy : y + 1 ≤ (n : Int)) (hn : n ≤ 1000000) {no : Int} {v : Value} {wg wo wc : Nat} (hw : WasAt w O s G no v wg wo wc) (hr : F.room s no = true) (hA : Adds w w2) (hA3 : Adds w2 w3)
    {g o k : Nat} {bs : List UInt8} (hl : bs.length = 256) (hat : At w3 (some ⟨g, o, none⟩) bs) (hgl : w.heap.size ≤ g) (hk : 256 ≤ k) :
    Calls Tryz.prog 93 #[Ptr p, .int .i64 no, .pointer (some ⟨w3.heap.size, 0, none⟩)] (w3.alloc (.cells #[.slice (some ⟨g, o, none⟩) 256 k, .int .i64 2, .int .i64 0, v] 134)) (fun e w' => e = .returned (.tuple #[]) ∧ Hid (∃ O', IsPool w' O' p dp (F.held s no ⟨no, bs, F.wasB s no, true, F.wasD s no⟩) n ∧ Touch O w w' ∧ ∀ k, O' k → O k ∨ (w.heap.size ≤ k ∧ k < w'.heap.size))) := by
  have hz2 := hA.size
  have hz3 := hA3.size
  have hgl3 : g < w3.heap.size := by
    obtain ⟨b', o', e', hc⟩ := hat 0 (bs[0]'(by omega)) (by simp)
    cases e'
    exact World.block_lt_of_cell? _ _ hc
  obtain ⟨w4, hw4⟩ : ∃ w4, w4 = w3.alloc (.cells #[.slice (some ⟨g, o, none⟩) 256 k, .int .i64 2, .int .i64 0, v] 134) := ⟨_, rfl⟩
  have hb4 : w4.heap[w3.heap.size]? = some (FBox g o k 2 0 v) := by rw [hw4]; exact heap_alloc_new w3 _
  have hz4 : w4.heap.size = w3.heap.size + 1 := by rw [hw4]; simp
  have hA4 : Adds w w4 := by rw [hw4]; exact (hA.trans hA3).alloc _
  have hA34 : Adds w3 w4 := by rw [hw4]; exact (Touch.refl _ w3).alloc _
  rw [← hw4]
  clear hw4
  obtain ⟨O1, hO1⟩ : ∃ O1 : Nat → Prop, O1 = fun k => O k ∨ (w.heap.size ≤ k ∧ k < w4.heap.size) := ⟨_, rfl⟩
  have hOO : ∀ k, O k → O1 k := fun k c => by rw [hO1]; exact .inl c
  obtain ⟨t, ht⟩ : ∃ t : Tk, t = ⟨⟨no, bs, F.wasB s no, true, F.wasD s no⟩, w3.heap.size, 0, wg, wo, wc⟩ := ⟨_, rfl⟩
  have hno : t.f.no = no := by rw [ht]
  have hbo : t.both = F.wasD s no := by rw [ht]; exact Bool.true_and _
  have hwp : t.wp = v := by rw [hw.is]; unfold Tk.wp; rw [hbo, ht]
  have hP4 : PoolAt w4 O1 p dp s hb y G := (h.adds hA4).mono hOO
  have hT4 : TkAt w4 O1 t := by
    refine ⟨?_, fun e => ?_⟩
    · rw [hwp, ht]
      refine ⟨g, o, k, hb4, ?_, ?_, hk, hl, hat.adds hA34⟩
      · rw [hO1]; exact .inr ⟨by show w.heap.size ≤ w3.heap.size; omega, by show w3.heap.size < _; omega⟩
      · rw [hO1]; exact .inr ⟨by omega, by omega⟩
    · rw [hbo] at e
      have q := hw.at' e
      rw [ht]
      exact (q.touch hA4 (fun _ _ => id)).mono hOO
  have hap : ((gs G t.f.no).flatMap Tk.bl ++ t.bl).Nodup := by
    rw [hno, List.nodup_append]
    have hold : ∀ x ∈ (gs G no).flatMap Tk.bl, x < w.heap.size := fun x hx => by
      obtain ⟨u, hu, hxu⟩ := List.mem_flatMap.1 hx
      exact (h.bl_lt (gs_mem.1 hu).1 hxu).1
    refine ⟨h.nd.sublist (sub_flat (gs_sub G _)), by simp [Tk.bl], fun x hx z hz e => ?_⟩
    have hz' : z = t.b := by simpa [Tk.bl] using hz
    have := hold x hx
    rw [e, hz', ht] at this
    exact absurd this (by show ¬ w3.heap.size < _; omega)
  have q := bhold_any hP4 (by omega) hT4 hap (by rw [hno]; exact hr)
  rw [hno, show t.b = w3.heap.size by rw [ht]] at q
  refine q.mono ?_
  rintro e w' ⟨rfl, H⟩
  obtain ⟨G', hG', _, hT⟩ := H.out
  have hzT := hT.size
  refine ⟨rfl, O1, ⟨hb, y + 1, G', ?_, hy⟩, ?_, fun k c => ?_⟩
  · have e2 : F.held s t.f.no t.f = F.held s no ⟨no, bs, F.wasB s no, true, F.wasD s no⟩ := by rw [ht]
    rw [← e2]; exact hG'
  · refine (hA4.mono (fun _ _ c => c.elim)).then hT (fun k hk c => ?_)
    rcases c with c | c | c
    · rw [c]; exact h.op
    · rw [c]; exact h.oh
    · rw [ht] at c
      exact absurd hk (by rw [c]; show ¬ w3.heap.size < _; omega)
  · rw [hO1] at c
    rcases c with c | c
    · exact .inl c
    · exact .inr ⟨c.1, by omega⟩
end Go.Proofs.YtjlennpoaefllaaGreatDoor

/- The pool's call Put: the walk. -/
namespace Go.Proofs.YtjlennpoaefllaaGreatDoor
open Go.RowKit

set_option maxRecDepth 100000 in
set_option maxHeartbeats 4000000 in
theorem put_no {w : World} {O : Nat → Prop} {p dp : Nat} {s : F.Po} {hb : Nat} {y : Int} {G : List Tk} {n : Nat} (h : PoolAt w O p dp s hb y G) (hy : y ≤ (n : Int)) (no : Int) (a : Option Addr) (bs : List UInt8) (m cap : Nat) (hm : bs.length = m) (hc : m ≤ cap) (hA : At w a bs) (hTb : Tab w) (hE : F.putE s no bs ≠ 0) :
    Calls Tryz.prog 53 #[Ptr p, .int .i64 no, .slice a m cap] w (PPut w O p dp s n (F.putE s no bs : Int)) := by
  have HA := hid (basked_any h no)
  have HI := hid (unsealed_any a bs m cap no w hm hc hA hTb)
  have HR := hid (fun w1 (hA : Adds w w1) => hasRoom_any (h.adds hA) no)
  have HP := hid (fun w1 (hA : Adds w w1) => show IsPool w1 O p dp s n from ⟨hb, y, G, h.adds hA, hy⟩)
  have HE : Hid (F.putE s no bs = if F.inPool s no then (if F.isE bs no = 0 then (if F.room s no then 0 else 33) else F.isE bs no) else 2) := by
    show _ = _
    unfold F.putE F.isE
    cases F.inPool s no <;> cases M.readP bs with
    | none => rfl
    | some q => by_cases c : (q.no : Int) ≠ no <;> simp [c]
  clear h hA hTb hm
  cases hq : F.inPool s no with
  | false =>
    rw [hq] at HA
    have hz : F.putE s no bs = 2 := by rw [HE.out, hq]; rfl
    rw [hz]
    clear hE hq hz HE
    go_enter Tryz.func53, Tryz.ntmps53
    go_wp2_with (go_at_call 90; refine HA.out.mono ?_; rintro e _ ⟨rfl, hw⟩; rw [hw]; clear hw)
    go_ret
    exact ⟨rfl, O, HP.out _ (Touch.refl _ _), Touch.refl _ _, fun k c => .inl c⟩
  | true =>
    rw [hq] at HA
    by_cases hi : F.isE bs no = 0
    · rw [hi] at HI
      cases hr : F.room s no with
      | true =>
        exact absurd (by rw [HE.out, hq, if_pos hi, hr]; rfl) hE
      | false =>
        rw [hr] at HR
        have hz : F.putE s no bs = 33 := by rw [HE.out, hq, if_pos hi, hr]; rfl
        rw [hz]
        clear hE hq hz HE hi hr
        go_enter Tryz.func53, Tryz.ntmps53
        go_wp2_with (first
          | (go_at_call 90; refine HA.out.mono ?_; rintro e _ ⟨rfl, hw⟩; rw [hw]; clear hw)
          | (go_at_call 91; refine HI.out.mono ?_; rintro e w1 ⟨a1, k1, rfl, H1⟩; have HA1 := hid H1.out.2.2.2)
          | (go_at_call 92; refine (HR.out w1 HA1.out).mono ?_; rintro e w2 ⟨rfl, hA2⟩; have HA2 := hid hA2; clear hA2))
        go_ret
        have hA := HA1.out.trans HA2.out
        exact ⟨rfl, O, HP.out _ hA, hA.mono (fun _ _ c => c.elim), fun k c => .inl c⟩
    · have hz : F.putE s no bs = F.isE bs no := by rw [HE.out, hq, if_neg hi]; rfl
      rw [hz]
      generalize F.isE bs no = z at *
      have hz' : ((z : Int) != 0) = true := by simp; omega
      clear hE hq hz HE hi
      go_enter Tryz.func53, Tryz.ntmps53
      go_wp2_with (first
        | (go_at_call 90; refine HA.out.mono ?_; rintro e _ ⟨rfl, hw⟩; rw [hw]; clear hw)
        | (go_at_call 91; refine HI.out.mono ?_; rintro e w1 ⟨a1, k1, rfl, H1⟩; have HA1 := hid H1.out.2.2.2))
      go_ret
      exact ⟨rfl, O, HP.out _ HA1.out, HA1.out.mono (fun _ _ c => c.elim), fun k c => .inl c⟩
set_option maxRecDepth 100000 in
set_option maxHeartbeats 4000000 in
theorem put_yes {w : World} {O : Nat → Prop} {p dp : Nat} {s : F.Po} {hb : Nat} {y : Int} {G : List Tk} {n : Nat} (h : PoolAt w O p dp s hb y G) (hy : y + 1 ≤ (n : Int)) (hn : n ≤ 1000000) (no : Int) (a : Option Addr) (bs : List UInt8) (m cap : Nat) (hm : bs.length = m) (hc : m ≤ cap) (hA : At w a bs) (hTb : Tab w) (hE : F.putE s no bs = 0) :
    Calls Tryz.prog 53 #[Ptr p, .int .i64 no, .slice a m cap] w (PPut w O p dp (F.putS s no bs) n 0) := by
  have hin : F.inPool s no = true := by
    unfold F.putE at hE
    split at hE
    · assumption
    · cases hE
  obtain ⟨q, hR, hqn, hroom⟩ : ∃ q, M.readP bs = some q ∧ (q.no : Int) = no ∧ F.room s no = true := by
    unfold F.putE at hE
    rw [if_pos hin] at hE
    split at hE
    · cases hE
    · rename_i q hq
      split at hE
      · cases hE
      · rename_i c
        split at hE
        · exact ⟨q, hq, Classical.byContradiction c, by assumption⟩
        · cases hE
  have hz : F.isE bs no = 0 := by unfold F.isE; rw [hR]; simp [hqn]
  have hU : F.uns bs no = F.nw bs := by unfold F.uns; rw [if_pos hz]
  have hS : F.putS s no bs = F.held s no ⟨no, F.nw bs, F.wasB s no, true, F.wasD s no⟩ := by unfold F.putS; rw [if_pos hE]
  rw [hS]
  have HA := hid (basked_any h no)
  rw [hin] at HA
  have HI := hid (unsealed_any a bs m cap no w hm hc hA hTb)
  rw [hz, hU] at HI
  have HR := hid (fun w1 (hA : Adds w w1) => hasRoom_any (h.adds hA) no)
  rw [hroom] at HR
  obtain ⟨v, wg, wo, wc, hw⟩ := h.wasAt no
  obtain ⟨va, vn, vc, rfl⟩ : ∃ va vn vc, v = .slice va vn vc := by rw [hw.is]; split <;> exact ⟨_, _, _, rfl⟩
  have HB := hid (fun w1 (hA : Adds w w1) => show w1.heap[p]? = some (PBox dp s hb y) from (h.adds hA).box)
  have HMs := hid (fun w1 (hA : Adds w w1) => (h.adds hA).mp)
  have HD := hid hw.call
  have hl := F.nw_len hR
  have HH := hid (fun (w2 : World) (hA2 : Adds w w2) (g o k : Nat) (hat : At w2 (some ⟨g, o, none⟩) (F.nw bs)) (hgl : w.heap.size ≤ g) (hk : 256 ≤ k) => put_hold h hy hn hw hroom hA2 (Touch.refl _ w2) hl hat hgl hk)
  have HBL := hid hl
  unfold Ptr at *
  clear h hA hTb hm hE hin hR hqn hroom hl hz hS hw hU
  obtain ⟨lv, hlk⟩ : ∃ lv, lk (G.map Tk.pr) no = lv := ⟨_, rfl⟩
  rw [hlk] at HD
  have HLK := hid hlk
  clear hlk
  generalize F.nw bs = cs at *
  go_enter Tryz.func53, Tryz.ntmps53
  go_upto_region 9 with (first
    | (go_at_call 90; refine HA.out.mono ?_; rintro e _ ⟨rfl, hw⟩; rw [hw]; clear hw)
    | (go_at_call 91; refine HI.out.mono ?_; rintro e w1 ⟨a1, k1, rfl, H1⟩; rw [HBL.out])
    | (go_at_call 92; refine (HR.out w1 H1.out.2.2.2).mono ?_; rintro e w2 ⟨rfl, hA2⟩; have HA12 := hid hA2; clear hA2))
  obtain ⟨g1, o1, e1⟩ := H1.out.1.ad (by rw [HBL.out]; decide)
  subst e1
  have HA2 := hid (H1.out.2.2.2.trans HA12.out)
  have HAt := hid (And.intro (H1.out.1.adds HA12.out) (And.intro (H1.out.2.2.1.2 g1 o1 rfl) (show 256 ≤ k1 by have := H1.out.2.1; rw [HBL.out] at this; exact this)))
  have c4 : w2.cell? ⟨p, 4, none⟩ = some (.map (some hb)) := cellOf (HB.out w2 HA2.out) 4
  have HMP := hid (HMs.out w2 HA2.out)
  go_wp2_with (first
    | (at_lookup; refine wpList_lookup_p rfl _ _ 87 rfl 3 131 Tryz.underlying87 Tryz.underlying3 zeroPF hb rfl HMP.out _ rfl ?_; rw [HLK.out])
    | (go_at_call 94; refine (HD.out _ HA2.out).mono ?_; rintro e _ ⟨rfl, hw⟩; rw [hw]; clear hw)
    | (go_at_call 93; refine (HH.out w2 HA2.out g1 o1 k1 HAt.out.1 HAt.out.2.1 HAt.out.2.2).mono ?_; rintro e w5 ⟨rfl, H5⟩)
    | go_in)
  go_ret
  exact ⟨rfl, H5.out⟩
set_option maxRecDepth 100000 in
/-- Put, by the pool's state. -/
theorem bput_any {w : World} {O : Nat → Prop} {p dp : Nat} {s : F.Po} {n : Nat} (h : IsPool w O p dp s n) (hn : n + 1 ≤ 1000000) (no : Int) (a : Option Addr) (bs : List UInt8) (m cap : Nat) (hm : bs.length = m) (hc : m ≤ cap) (hA : At w a bs) (hTb : Tab w) :
    Calls Tryz.prog 53 #[Ptr p, .int .i64 no, .slice a m cap] w (PPut w O p dp (F.putS s no bs) (n + 1) (F.putE s no bs : Int)) := by
  obtain ⟨hb, y, G, h, hy⟩ := h
  by_cases hE : F.putE s no bs = 0
  · have q := put_yes h (n := n + 1) (by omega) hn no a bs m cap hm hc hA hTb hE
    rw [hE]
    exact q
  · have e : F.putS s no bs = s := by unfold F.putS; rw [if_neg hE]
    rw [e]
    exact put_no h (n := n + 1) (by omega) no a bs m cap hm hc hA hTb hE
end Go.Proofs.YtjlennpoaefllaaGreatDoor

/- The numbers of the pages of some frames, rising. -/
namespace Go.Proofs.YtjlennpoaefllaaGreatDoor
open Go.RowKit

set_option maxRecDepth 100000 in
theorem info3 : ∃ i, Tryz.prog.info? 3 = some i ∧ i.zero = some (.int .i64 0) ∧ i.size = 1 ∧ i.bytes = 8 := by
  have h : (Tryz.prog.info? 3).map (fun i => (i.zero, i.size, i.bytes)) = some (some (.int .i64 0), 1, 8) := by kernel_rfl
  cases hq : Tryz.prog.info? 3 with
  | none => rw [hq] at h; cases h
  | some i =>
    rw [hq] at h
    simp only [Option.map_some, Option.some.injEq, Prod.mk.injEq] at h
    exact ⟨i, rfl, h.1, h.2.1, h.2.2⟩
set_option maxRecDepth 100000 in
theorem row_keep {w w' : World} {B : Nat} {e : TypeId} {v : Value} {n : Nat} {xs : List Value} (h : w.ownsRow B e 1 v n xs) {T : Nat → Prop} (hT : Touch T w w') (hn : ∀ k, v.ownBlock = some k → ¬ T k) : w'.ownsRow B e 1 v n xs := by
  rcases h.2 with hq | ⟨g, cap, cur, rfl, hb, hg, rest⟩
  · exact ⟨h.1, .inl hq⟩
  · exact ⟨h.1, .inr ⟨g, cap, cur, rfl, hb, by rw [hT.block g (Array.getElem?_eq_some_iff.1 hg).1 (hn g rfl)]; exact hg, rest⟩⟩
/-- What is collected on the way. -/
structure Coll (w wr : World) (hb : Nat) (G : List Tk) (m : F.Fr → Bool) (lv : Value) (D T : List Tk) (zs : List Int) : Prop where
  perm : G.Perm (D ++ T)
  rg : Rg wr hb w.heap.size (G.map Tk.pr) (T.map Tk.pr)
  adds : Adds w wr
  row : wr.ownsRow (w.heap.size + 1) 3 1 lv zs.length (I zs)
  says : zs.Perm ((D.filter (fun t => m t.f)).map (fun t => t.f.no))
set_option maxRecDepth 100000 in
theorem Coll.len {w wr : World} {hb : Nat} {G : List Tk} {m : F.Fr → Bool} {lv : Value} {D T : List Tk} {zs : List Int} (h : Coll w wr hb G m lv D T zs) : zs.length ≤ G.length := by
  have h1 := h.says.length_eq
  have h2 := h.perm.length_eq
  have h3 := List.length_filter_le (fun t : Tk => m t.f) D
  rw [List.length_map] at h1
  rw [List.length_append] at h2
  omega
set_option maxRecDepth 100000 in
theorem Coll.done {w wr : World} {hb : Nat} {G : List Tk} {m : F.Fr → Bool} {lv : Value} {D : List Tk} {zs : List Int} (h : Coll w wr hb G m lv D [] zs) {s : F.Po} (hL : s.L = G.map (·.f)) : rise zs = F.which s m := by
  unfold F.which
  refine rise_of_perm (h.says.trans ?_)
  have hp : D.Perm G := by have := h.perm; rw [List.append_nil] at this; exact this.symm
  rw [hL, List.filter_map, List.map_map]
  exact ((hp.filter _).map _)
set_option maxRecDepth 100000 in
theorem Coll.skip {w wr w1 : World} {hb : Nat} {G : List Tk} {m : F.Fr → Bool} {lv : Value} {D T T' : List Tk} {zs : List Int} (h : Coll w wr hb G m lv D T zs) {t : Tk} (hp : T.Perm (t :: T')) (hR : Rg w1 hb w.heap.size (G.map Tk.pr) (T'.map Tk.pr)) (hT : Touch (fun k => k = w.heap.size) wr w1) (hm : m t.f = false) : Coll w w1 hb G m lv (t :: D) T' zs := by
  refine ⟨perm_move h.perm hp, hR, h.adds.then hT (fun i hi e => by omega), row_keep h.row hT (fun k hk e => ?_), ?_⟩
  · have := (row_low h.row hk).1
    omega
  · rw [List.filter_cons, hm]
    exact h.says
set_option maxRecDepth 100000 in
theorem Coll.take {w wr w1 w2 w3 : World} {hb : Nat} {G : List Tk} {m : F.Fr → Bool} {lv lv' : Value} {D T T' : List Tk} {zs : List Int} (h : Coll w wr hb G m lv D T zs) {t : Tk} (hp : T.Perm (t :: T')) (hR : Rg w1 hb w.heap.size (G.map Tk.pr) (T'.map Tk.pr)) (hT : Touch (fun k => k = w.heap.size) wr w1) (hm : m t.f = true)
    (hA : Adds w1 w2) (hrow : w3.ownsRow (w.heap.size + 1) 3 1 lv' (zs.length + 1) (I zs ++ [.int .i64 t.f.no])) (hg : w2.grownBy w3 lv.ownBlock) (hlt : hb < w.heap.size) : Coll w w3 hb G m lv' (t :: D) T' (zs ++ [t.f.no]) := by
  have h1 : Adds w w1 := h.adds.then hT (fun i hi e => by omega)
  have hlow : ∀ k, lv.ownBlock = some k → w.heap.size + 1 ≤ k := fun k hk => (row_low h.row hk).1
  have hT3 : Touch (fun k => lv.ownBlock = some k) w2 w3 := ⟨hg.os, hg.tape, hg.output, hg.size, fun k hk hn => hg.block k hk (fun e => hn e.symm)⟩
  refine ⟨perm_move h.perm hp, (hR.touch hA id id).touch hT3 (fun c => by have := hlow _ c; omega) (fun c => by have := hlow _ c; omega), (h1.trans hA).then hT3 (fun i hi c => by have := hlow _ c; omega), ?_, ?_⟩
  · have : I (zs ++ [t.f.no]) = I zs ++ [.int .i64 t.f.no] := by simp [I]
    rw [this, List.length_append]
    exact hrow
  · rw [List.filter_cons, hm, if_pos rfl, List.map_cons]
    exact (List.perm_append_comm (l₂ := [t.f.no])).trans (List.Perm.cons _ h.says)
end Go.Proofs.YtjlennpoaefllaaGreatDoor

/- Frames change in place: the laws for Accept and Flush. -/
namespace Go.Proofs.YtjlennpoaefllaaGreatDoor
open Go.RowKit

namespace F
set_option maxRecDepth 100000 in
theorem acc_no (f : Fr) : (acc f).no = f.no := by unfold acc; split <;> rfl
end F
set_option maxRecDepth 100000 in
/-- One frame is changed. -/
theorem PoolAt.upd {w w' : World} {O : Nat → Prop} {p dp : Nat} {s : F.Po} {hb : Nat} {y : Int} {G : List Tk} (h : PoolAt w O p dp s hb y G) {t : Tk} (ht : t ∈ G) (g : Tk → Tk) (gf : F.Fr → F.Fr) (hg : ∀ u, (g u).b = u.b ∧ (g u).age = u.age ∧ (g u).f = gf u.f ∧ (gf u.f).no = u.f.no ∧ (g u).bl.Sublist u.bl)
    (hT : Touch (fun k => k = t.b) w w') (ht' : TkAt w' O (g t)) : PoolAt w' O p dp { s with L := s.L.map fun f => if f.no = t.f.no then gf f else f } hb y (G.map fun u => if u.f.no = t.f.no then g u else u) := by
  obtain ⟨g0, o0, c0, hb0, _⟩ := (h.at' t ht).now
  have hpb : p ≠ t.b := fun e => by have := h.box; rw [e, hb0] at this; cases this
  have hhb : hb ≠ t.b := fun e => by obtain ⟨es, clock, hm, _⟩ := h.mp; rw [e, hb0] at hm; cases hm
  have hnd := List.nodup_append.1 (gs_nodup h ht)
  refine ⟨?_, ?_, ?_, ?_, ?_, ?_, ?_, h.y0, h.op, h.oh⟩
  · rw [hT.block p (Array.getElem?_eq_some_iff.1 h.box).1 hpb]; exact h.box
  · have e : (G.map fun u => if u.f.no = t.f.no then g u else u).map Tk.pr = G.map Tk.pr := by
      rw [List.map_map]
      refine List.map_congr_left (fun u _ => ?_)
      simp only [Function.comp]
      split
      · unfold Tk.pr; rw [(hg u).1, (hg u).2.2.1, (hg u).2.2.2.1]
      · rfl
    rw [e]
    exact h.mp.touch hT hhb
  · show s.L.map _ = _
    rw [h.L, List.map_map, List.map_map]
    refine List.map_congr_left (fun u _ => ?_)
    simp only [Function.comp]
    split
    · exact (hg u).2.2.1.symm
    · rfl
  · intro u hu
    obtain ⟨v, hv, rfl⟩ := List.mem_map.1 hu
    split
    · rename_i e
      rw [mem_nodup h.once hv ht e]
      exact ht'
    · rename_i e
      have : ¬ t.b ∈ v.bl := fun c => hnd.2.2 t.b (List.mem_flatMap.2 ⟨v, gs_mem.2 ⟨hv, e⟩, c⟩) t.b (by simp [Tk.bl]) rfl
      exact (h.at' v hv).other hb0 t.wp_no hT this
  · have key : ∀ l : List Tk, ((l.map fun u => if u.f.no = t.f.no then g u else u).flatMap Tk.bl).Sublist (l.flatMap Tk.bl) := by
      intro l
      induction l with
      | nil => exact List.Sublist.refl _
      | cons x l ih =>
        rw [List.map_cons, List.flatMap_cons, List.flatMap_cons]
        refine List.Sublist.append ?_ ih
        split
        · exact (hg x).2.2.2.2
        · exact List.Sublist.refl _
    exact h.nd.sublist (key G)
  · rw [List.pairwise_map]
    refine h.age.imp (fun {a b} q => ?_)
    have e : ∀ u : Tk, (if u.f.no = t.f.no then g u else u).age = u.age := fun u => by split; exact (hg u).2.1; rfl
    rw [e, e]
    exact q
  · intro u hu
    obtain ⟨v, hv, rfl⟩ := List.mem_map.1 hu
    split
    · rw [(hg v).2.1]; exact h.le v hv
    · exact h.le v hv
/-- A frame that is accepted. -/
def Tk.acc (t : Tk) : Tk := { t with f := F.acc t.f }
end Go.Proofs.YtjlennpoaefllaaGreatDoor

/- The pool's call Accept. -/
namespace Go.Proofs.YtjlennpoaefllaaGreatDoor
open Go.RowKit

end Go.Proofs.YtjlennpoaefllaaGreatDoor

/- Pages are laid down on the disk. -/
namespace Go.Proofs.YtjlennpoaefllaaGreatDoor
open Go.RowKit

namespace F
/-- What holds of each state of a pool. -/
structure Good (s : Po) : Prop where
  nos : ∀ f ∈ s.L, 0 ≤ f.no ∧ f.no < s.ct
  pgs : ∀ f ∈ s.L, ∃ q, M.readP f.now = some q ∧ (q.no : Int) = f.no
  was : ∀ f ∈ s.L, f.fresh = true → f.dirty = true → ∃ q, M.readP f.was = some q ∧ (q.no : Int) = f.no
  len : (s.L.length : Int) ≤ s.mo
  nd : (s.L.map (·.no)).Nodup
end F
end Go.Proofs.YtjlennpoaefllaaGreatDoor

/- The pool's call Flush. -/
namespace Go.Proofs.YtjlennpoaefllaaGreatDoor
open Go.RowKit

namespace F
/-- A frame that was written. -/
def cln (f : Fr) : Fr := if f.fresh then f else { f with dirty := false }
set_option maxRecDepth 100000 in
theorem cln_no (f : Fr) : (cln f).no = f.no := by unfold cln; split <;> rfl
end F
def Tk.cln (t : Tk) : Tk := { t with f := F.cln t.f }
set_option maxRecDepth 100000 in
theorem Tk.cln_is (u : Tk) : u.cln.b = u.b ∧ u.cln.age = u.age ∧ u.cln.f = F.cln u.f ∧ (F.cln u.f).no = u.f.no ∧ u.cln.bl.Sublist u.bl := by
  exact ⟨rfl, rfl, rfl, F.cln_no _, List.Sublist.refl _⟩
set_option maxRecDepth 100000 in
theorem PoolAt.clean {w w' : World} {O : Nat → Prop} {p dp : Nat} {s : F.Po} {hb : Nat} {y : Int} {G : List Tk} (h : PoolAt w O p dp s hb y G) {t : Tk} (ht : t ∈ G) (hf : t.f.fresh = false) (hw : w' = w.setCell ⟨t.b, 1, none⟩ (.int .i64 0)) :
    PoolAt w' O p dp { s with L := s.L.map fun f => if f.no = t.f.no then F.cln f else f } hb y (G.map fun u => if u.f.no = t.f.no then u.cln else u) ∧ Touch (fun k => k = t.b) w w' := by
  have hT : Touch (fun k => k = t.b) w w' := by rw [hw]; exact Touch.setCell (T := fun k => k = t.b) (Touch.refl _ w) (p := ⟨t.b, 1, none⟩) (fun _ => rfl) _
  refine ⟨h.upd ht Tk.cln F.cln Tk.cln_is hT ⟨?_, ?_⟩, hT⟩
  · obtain ⟨g, o, c, h1, h2, h3, h4, h5, h6⟩ := (h.at' t ht).now
    have e1 : F.st t.cln.f = 0 := by show F.st (F.cln t.f) = 0; unfold F.cln F.st; rw [hf]; simp
    have e2 : t.cln.wp = t.wp := by
      show (if (F.cln t.f).fresh && (F.cln t.f).dirty then _ else _) = (if t.f.fresh && t.f.dirty then _ else _)
      unfold F.cln; rw [hf]; simp
    have e3 : t.cln.f.now = t.f.now := by show (F.cln t.f).now = _; unfold F.cln; rw [hf]; rfl
    rw [e1, e2, e3]
    refine ⟨g, o, c, ?_, h2, h3, h4, h5, h6.block (fun b' o' e hb => by cases e; exact hT.block _ hb (FrAt.ne h1 h6 h5 t.wp_no))⟩
    rw [hw]
    exact heap_setCell_same w t.b 1 _ 134 _ h1
  · intro e
    have : t.cln.both = false := by show ((F.cln t.f).fresh && (F.cln t.f).dirty) = false; unfold F.cln; rw [hf]; simp
    rw [this] at e
    cases e
end Go.Proofs.YtjlennpoaefllaaGreatDoor

/- The pool's calls Open and Count; pools that are nil, or that no call made. -/
namespace Go.Proofs.YtjlennpoaefllaaGreatDoor
open Go.RowKit

namespace F
def openOk (D : dSt) (fr ct mo : Int) : Bool := decide (0 ≤ fr ∧ 1 ≤ ct ∧ ct ≤ 4096 ∧ fr + ct ≤ D.size ∧ 1 ≤ mo ∧ mo ≤ 256)
end F
/-- What Open makes. -/
def POpn (w : World) (dp : Nat) (s : F.Po) (e : Ending) (w' : World) : Prop := ∃ p, e = .returned (.tuple #[Ptr p, .int .i64 0]) ∧ Hid (IsPool w' (fun k => w.heap.size ≤ k ∧ k < w'.heap.size) p dp s 0 ∧ Adds w w')
set_option maxRecDepth 100000 in
set_option maxHeartbeats 1000000 in
theorem bopen_ok {w : World} {OD : Nat → Prop} {dp : Nat} {D : dSt} {k : Nat} (hd : IsDO w OD dp D) (hk : DOk D k) (hsz : D.size ≤ 4096) (fr ct mo : Int) (hb : F.openOk D fr ct mo = true) : Calls Tryz.prog 11 #[Ptr dp, .int .i64 fr, .int .i64 ct, .int .i64 mo] w (POpn w dp ⟨fr, ct, mo, []⟩) := by
  have H := hid (dsize_any hd hk)
  have h0 : ¬ D.size = 0 := by have := hk.size; omega
  have h0' : (D.size == 0) = false := by simpa using h0
  have hs := hk.size
  have hb' : 0 ≤ fr ∧ 1 ≤ ct ∧ ct ≤ 4096 ∧ fr + ct ≤ D.size ∧ 1 ≤ mo ∧ mo ≤ 256 := by simpa [F.openOk] using hb
  have h1 : ¬ fr < 0 := by omega
  have h2 : ¬ ct < 1 := by omega
  have h3 : ¬ 4096 < ct := by omega
  have h4 : ¬ D.size - fr < ct := by omega
  have h5 : ¬ mo < 1 := by omega
  have h6 : ¬ 256 < mo := by omega
  have hw : wrap64 (D.size - fr) = D.size - fr := by simp [wrap64]; omega
  have hmm := @run_makeMap Tryz.prog
  unfold Ptr at *
  clear hd hk hb hb'
  go_enter Tryz.func11, Tryz.ntmps11
  go_wp2_with (go_at_call 34; refine H.out.mono ?_; rintro e _ ⟨rfl, hw⟩; rw [hw]; clear hw)
  go_ret2
  refine ⟨_, rfl, ⟨w.heap.size, 0, [], ⟨heap_alloc2_new w _ _, ⟨#[], 0, heap_alloc2_old w _ _, MapP.nil⟩, rfl, fun t ht => (by cases ht), List.nodup_nil, List.Pairwise.nil, fun t ht => (by cases ht), Int.le_refl _, ⟨by omega, by simp⟩, ⟨Nat.le_refl _, by simp; omega⟩⟩, Int.le_refl _⟩, ((Touch.refl _ w).alloc _).alloc _⟩
end Go.Proofs.YtjlennpoaefllaaGreatDoor
