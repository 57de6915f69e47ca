/- Texts put together: FGet, FPut, FPut2, FWhich, FAcc, FAcc2, FWrite, FFlush, FOpen. -/
import Derived.Test.YtjlennpoaefllaaGreatDoorQ19
/- The pool's call Get. -/
namespace Go.Proofs.YtjlennpoaefllaaGreatDoor
open Go.RowKit

set_option maxRecDepth 100000 in
theorem gs_perm {G : List Tk} (hn : (G.map (fun t => t.f.no)).Nodup) {t : Tk} (ht : t ∈ G) : G.Perm (gs G t.f.no ++ [t]) := by
  induction G with
  | nil => cases ht
  | cons x G ih =>
    obtain ⟨h1, h2⟩ := List.nodup_cons.1 hn
    unfold gs
    rw [List.filter_cons]
    rcases List.mem_cons.1 ht with rfl | ht
    · have : G.filter (fun u => decide (u.f.no ≠ t.f.no)) = G := by
        rw [List.filter_eq_self]
        intro u hu
        have : u.f.no ≠ t.f.no := fun e => h1 (List.mem_map.2 ⟨u, hu, e⟩)
        simp [this]
      rw [this]
      simp only [ne_eq, not_true_eq_false, decide_false, Bool.false_eq_true, if_false]
      exact List.perm_append_comm (l₁ := [t])
    · have hne : x.f.no ≠ t.f.no := fun e => h1 (List.mem_map.2 ⟨t, ht, e.symm⟩)
      simp only [ne_eq, hne, not_false_eq_true, decide_true, if_true]
      exact List.Perm.cons x (ih h2 ht)
set_option maxRecDepth 100000 in
theorem perm_flat {G H : List Tk} (h : G.Perm H) : (G.flatMap Tk.bl).Perm (H.flatMap Tk.bl) := by
  induction h with
  | nil => exact List.Perm.refl _
  | cons x _ ih => rw [List.flatMap_cons, List.flatMap_cons]; exact List.Perm.append_left _ ih
  | swap x y l => rw [List.flatMap_cons, List.flatMap_cons, List.flatMap_cons, List.flatMap_cons, ← List.append_assoc, ← List.append_assoc]; exact List.Perm.append_right _ List.perm_append_comm
  | trans _ _ h1 h2 => exact h1.trans h2
set_option maxRecDepth 100000 in
theorem gs_nodup {w : World} {O : Nat → Prop} {p dp : Nat} {s : F.Po} {hb : Nat} {y : Int} {G : List Tk} (h : PoolAt w O p dp s hb y G) {t : Tk} (ht : t ∈ G) : ((gs G t.f.no).flatMap Tk.bl ++ t.bl).Nodup := by
  have := (perm_flat (gs_perm h.once ht)).nodup_iff.1 h.nd
  rw [List.flatMap_append, List.flatMap_cons, List.flatMap_nil, List.append_nil] at this
  exact this
set_option maxRecDepth 100000 in
theorem PoolAt.bl_lt {w : World} {O : Nat → Prop} {p dp : Nat} {s : F.Po} {hb : Nat} {y : Int} {G : List Tk} (h : PoolAt w O p dp s hb y G) {t : Tk} (ht : t ∈ G) {k : Nat} (hk : k ∈ t.bl) : k < w.heap.size ∧ O k := by
  have q := h.at' t ht
  obtain rfl := List.mem_singleton.1 hk
  exact ⟨q.now.lt, by obtain ⟨_, _, _, _, h2, _⟩ := q.now; exact h2⟩
/-- What Get tells, and leaves. -/
def PGet (w : World) (O : Nat → Prop) (p dp : Nat) (s : F.Po) (n : Nat) (z : Nat) (bs : List UInt8) (e : Ending) (w' : World) : Prop := ∃ v, e = .returned (.tuple #[v, .int .i64 (z : Int)]) ∧ Hid (w'.ownsRow w.heap.size 5 1 v bs.length (S bs) ∧ ∃ O', IsPool w' O' p dp s n ∧ Touch O w w' ∧ (∀ k, O' k → O k ∨ (w.heap.size ≤ k ∧ k < w'.heap.size)) ∧ ∀ k, v.ownBlock = some k → ¬ O' k)
set_option maxRecDepth 100000 in
/-- Behind hold: the page is told as a copy. -/
theorem get_fin {w w1 w2 w3 : World} {O O1 : Nat → Prop} {p dp : Nat} {s s' : F.Po} {hb : Nat} {y : Int} {n : Nat} {t : Tk} {v : Value} (hO1 : ∀ k, O k → k < w.heap.size) (hA : Adds w w1) (hO : ∀ k, O1 k → O k ∨ (w.heap.size ≤ k ∧ k < w1.heap.size)) (hp : ∃ G, PoolAt w2 O1 p dp s' hb (y + 1) G) (hT : Touch (fun k => k = p ∨ k = hb ∨ k = t.b) w1 w2)
    (hin : O1 p ∧ O1 hb ∧ O1 t.b) (hy : y + 1 ≤ (n : Int)) (hv : w3.ownsRow w2.heap.size 5 1 v t.f.now.length (S t.f.now)) (hA3 : Adds w2 w3) (hs : s' = s) : PGet w O p dp s n 0 t.f.now (.returned (.tuple #[v, .int .i64 0])) w3 := by
  have z1 := hA.size
  have z2 := hT.size
  have z3 := hA3.size
  obtain ⟨G, hG⟩ := hp
  subst hs
  refine ⟨v, rfl, row_base hv (fun j hj => by have := (row_low hv hj).1; omega), O1, ⟨hb, y + 1, G, hG.adds hA3, hy⟩, ?_, fun k hk => ?_, fun k hk c => ?_⟩
  · refine (hA.mono (fun _ _ c => c.elim)).then ((hT.mono (U := fun k => O1 k) (fun k _ e => ?_)).trans (hA3.mono (fun _ _ c => c.elim))) (fun k hk c => ?_)
    · rcases e with e | e | e
      · rw [e]; exact hin.1
      · rw [e]; exact hin.2.1
      · rw [e]; exact hin.2.2
    · rcases hO k c with c | c
      · exact c
      · omega
  · rcases hO k hk with c | c
    · exact .inl c
    · exact .inr ⟨c.1, by omega⟩
  · have := (row_low hv hk).1
    rcases hO k c with c | c
    · have := hO1 k c
      omega
    · omega
set_option maxRecDepth 100000 in
theorem need_at {s : F.Po} {no : Int} {f : F.Fr} (h : F.at? s.L no = some f) : F.need s no = false ∧ F.room s no = true := by
  have h1 : F.need s no = false := by unfold F.need; rw [h]; rfl
  exact ⟨h1, by unfold F.room; rw [h1]; rfl⟩
set_option maxRecDepth 100000 in
/-- What is owned lies in memory. -/
theorem FrAt.own {w : World} {O : Nat → Prop} {b : Nat} {bs : List UInt8} {s age : Int} {wp : Value} (h : FrAt w O b bs s age wp) : O b := by
  obtain ⟨_, _, _, _, h2, _⟩ := h
  exact h2
set_option maxRecDepth 100000 in
set_option maxHeartbeats 4000000 in
theorem get_bad {w : World} {O : Nat → Prop} {p dp : Nat} {s : F.Po} {hb : Nat} {y : Int} {G : List Tk} {n : Nat} (h : PoolAt w O p dp s hb y G) (hy : y ≤ (n : Int)) (no : Int) (hno : F.inPool s no = false) : Calls Tryz.prog 114 #[Ptr p, .int .i64 no] w (PGet w O p dp s n 2 []) := by
  have HA := hid (basked_any h no)
  rw [hno] at HA
  have HP := hid (show IsPool w O p dp s n from ⟨hb, y, G, h, hy⟩)
  clear h hno
  go_enter Tryz.func114, Tryz.ntmps114
  go_wp2_with (go_at_call 90; refine HA.out.mono ?_; rintro e _ ⟨rfl, hw⟩; rw [hw]; clear hw)
  go_ret2
  exact ⟨_, rfl, World.ownsRow_nil _ _ _ _, O, HP.out, Touch.refl _ _, fun k hk => .inl hk, fun k hk => by cases hk⟩
set_option maxRecDepth 100000 in
set_option maxHeartbeats 4000000 in
theorem get_held {w : World} {O : Nat → Prop} {p dp : Nat} {s : F.Po} {hb : Nat} {y : Int} {G : List Tk} {n : Nat} (h : PoolAt w O p dp s hb y G) (hy : y + 1 ≤ (n : Int)) (hn : n ≤ 1000000) (hO : ∀ k, O k → k < w.heap.size) (t : Tk) (ht : t ∈ G) (hno : F.inPool s t.f.no = true) : Calls Tryz.prog 114 #[Ptr p, .int .i64 t.f.no] w (PGet w O p dp (F.held s t.f.no t.f) n 0 t.f.now) := by
  have HA := hid (basked_any h t.f.no)
  rw [hno] at HA
  have hf : F.at? s.L t.f.no = some t.f ∧ lk (G.map Tk.pr) t.f.no = .pointer (some ⟨t.b, 0, none⟩) := by
    rcases h.find t.f.no with ⟨u, hu, e, h1, h2⟩ | ⟨h1, _⟩
    · rw [mem_nodup h.once hu ht e] at h1 h2; exact ⟨h1, h2⟩
    · exact absurd rfl (h1 t ht)
  have hroom := (need_at hf.1).2
  have HH := hid (bhold_any h (by omega) (h.at' t ht) (gs_nodup h ht) hroom)
  have c4 : w.cell? ⟨p, 4, none⟩ = some (.map (some hb)) := cellOf h.box 4
  have HMP := hid h.mp
  have HLK := hid hf.2
  have HP := hid h
  have HT := hid (h.at' t ht)
  have HOO := hid hO
  have HY := hid (And.intro hy hn)
  unfold Ptr at *
  clear h hno hf hroom hO hy
  go_enter Tryz.func114, Tryz.ntmps114
  go_upto_region 11 with (first
    | (go_at_call 90; refine HA.out.mono ?_; rintro e _ ⟨rfl, hw⟩; rw [hw]; clear hw)
    | (at_lookup; refine wpList_lookup_p rfl _ _ 87 rfl 3 131 Tryz.underlying87 Tryz.underlying3 zeroPF hb rfl HMP.out _ rfl ?_; rw [HLK.out])
    | (go_at_call 93; refine HH.out.mono ?_; rintro e w2 ⟨rfl, H2⟩)
    | go_in)
  obtain ⟨G', hG', hm', hT2⟩ := H2.out
  obtain ⟨g, o, c, hbx, _, _, hc, hl, hAt⟩ := (hG'.at' _ hm').now
  have d0 : w2.cell? ⟨t.b, 0, none⟩ = some (.slice (some ⟨g, o, none⟩) 256 c) := cellOf hbx 0
  have HCl := hid (show Calls Tryz.prog 140 #[.slice (some ⟨g, o, none⟩) 256 c] w2 (dPClone w2 t.f.now) by
    have q := slicesClone_any g o c t.f.now w2 (by rw [show t.f.now.length = 256 from hl]; decide) (by rw [show t.f.now.length = 256 from hl]; decide) (rangeOf hAt)
    rw [show t.f.now.length = 256 from hl] at q
    exact q)
  have HG' := hid hG'
  have HT2 := hid hT2
  clear hbx hAt hm' hG' hT2 hl
  go_wp2_with (go_at_call 140; refine HCl.out.mono ?_; rintro e w3 ⟨v3, rfl, h31, h32, h33⟩)
  go_ret2
  exact get_fin (t := t) HOO.out (Touch.refl _ w) (fun k hk => .inl hk) ⟨_, HG'.out⟩ HT2.out ⟨HP.out.op, HP.out.oh, HT.out.now.own⟩ HY.out.1 h31 h33 rfl
set_option maxRecDepth 100000 in
set_option maxHeartbeats 4000000 in
theorem get_new {w : World} {O OD : Nat → Prop} {p dp : Nat} {s : F.Po} {hb : Nat} {y : Int} {G : List Tk} {D : dSt} {n k : Nat} (h : PoolAt w O p dp s hb y G) (hy : y + 1 ≤ (n : Int)) (hn : n ≤ 1000000) (hO : ∀ k, O k → k < w.heap.size) (hd : IsDO w OD dp D) (hk : DOk D k) (hk9 : k ≤ 900) (hok : POk s D) (hTb : Tab w) (no : Int) (hno : F.inPool s no = true) (hat : F.at? s.L no = none) :
    Calls Tryz.prog 114 #[Ptr p, .int .i64 no] w (PGet w O p dp (if F.rdE s D no = 0 then F.held s no ⟨no, F.rdB s D no, [], false, false⟩ else s) n (F.rdE s D no) (if F.rdE s D no = 0 then F.rdB s D no else [])) := by
  have HA := hid (basked_any h no)
  rw [hno] at HA
  have hlk : (∀ t ∈ G, t.f.no ≠ no) ∧ lk (G.map Tk.pr) no = .pointer none := by
    rcases h.find no with ⟨u, hu, e, h1, h2⟩ | ⟨h1, _, h2⟩
    · rw [hat] at h1; cases h1
    · exact ⟨h1, h2⟩
  have hin : 0 ≤ no ∧ no < s.ct := by simpa [F.inPool] using hno
  have HRd := hid (bread_any h hd hk hk9 hok hTb no hin)
  have HRm := hid (show F.rdE s D no = 0 → F.room s no = true by
    intro e
    unfold F.rdE at e
    split at e
    · assumption
    · cases e)
  have c4 : w.cell? ⟨p, 4, none⟩ = some (.map (some hb)) := cellOf h.box 4
  have HMP := hid h.mp
  have HLK := hid hlk.2
  have HNo := hid hlk.1
  have HP := hid h
  have HOO := hid hO
  have HY := hid (And.intro hy hn)
  unfold Ptr at *
  clear h hno hlk hO hy hd hk hok hTb hat hin
  generalize F.rdE s D no = z at *
  generalize F.rdB s D no = bs at *
  by_cases hz : z = 0
  · rw [if_pos hz, if_pos hz]
    have hroom := hid (HRm.out hz)
    have HZ := hid hz
    go_enter Tryz.func114, Tryz.ntmps114
    go_upto_region 8 with (first
      | (go_at_call 90; refine HA.out.mono ?_; rintro e _ ⟨rfl, hw⟩; rw [hw]; clear hw)
      | (at_lookup; refine wpList_lookup_p rfl _ _ 87 rfl 3 131 Tryz.underlying87 Tryz.underlying3 zeroPF hb rfl HMP.out _ rfl ?_; rw [HLK.out])
      | (go_at_call 139; refine HRd.out.mono ?_; rintro e w1 ⟨v1, rfl, H1⟩)
      | go_in)
    subst hz
    obtain ⟨b, hv1, hfr, hA1⟩ : ∃ b, v1 = .pointer (some ⟨b, 0, none⟩) ∧ FrAt w1 (fun k => w.heap.size ≤ k ∧ k < w1.heap.size) b bs 0 0 (.slice none 0 0) ∧ Adds w w1 := by
      rcases H1.out with ⟨c, _⟩ | ⟨_, c⟩
      · exact absurd rfl c
      · exact c
    subst hv1
    obtain ⟨t, ht⟩ : ∃ t : Tk, t = ⟨⟨no, bs, [], false, false⟩, b, 0, 0, 0, 0⟩ := ⟨_, rfl⟩
    have hbl : t.bl = [b] := by rw [ht]; rfl
    have hno : t.f.no = no := by rw [ht]
    have hP1 : PoolAt w1 (fun k => O k ∨ (w.heap.size ≤ k ∧ k < w1.heap.size)) p dp s hb y G := (HP.out.adds hA1).mono (fun _ c => .inl c)
    have hT1 : TkAt w1 (fun k => O k ∨ (w.heap.size ≤ k ∧ k < w1.heap.size)) t := by
      rw [ht]
      exact ⟨hfr.mono (fun _ c => .inr c), fun e => by cases e⟩
    have hap : ((gs G t.f.no).flatMap Tk.bl ++ t.bl).Nodup := by
      rw [hbl, List.nodup_append]
      refine ⟨HP.out.nd.sublist (sub_flat (gs_sub G _)), by simp, fun x hx z hz e => ?_⟩
      obtain rfl := List.mem_singleton.1 hz
      obtain ⟨u, hu, hxu⟩ := List.mem_flatMap.1 hx
      have := (HP.out.bl_lt (gs_mem.1 hu).1 hxu).1
      have := hfr.own.1
      omega
    have HH := hid (show Calls Tryz.prog 93 #[.pointer (some ⟨p, 0, none⟩), .int .i64 no, .pointer (some ⟨b, 0, none⟩)] w1 (PHold w1 (fun k => O k ∨ (w.heap.size ≤ k ∧ k < w1.heap.size)) p dp s hb y t) by
      have q := bhold_any hP1 (by have := HY.out; omega) hT1 hap (by rw [hno]; exact hroom.out)
      rw [hno, show t.b = b by rw [ht]] at q
      exact q)
    have HT1 := hid hT1
    have HA1 := hid hA1
    have HTq := hid ht
    have HN := hid hno
    clear ht hbl hno hP1 hT1 hap hfr hA1
    go_upto_region 11 with (go_at_call 93; refine HH.out.mono ?_; rintro e w2 ⟨rfl, H2⟩)
    obtain ⟨G', hG', hm', hT2⟩ := H2.out
    obtain ⟨g, o, c, hbx, _, _, hc, hl, hAt⟩ := (hG'.at' _ hm').now
    have d0 : w2.cell? ⟨b, 0, none⟩ = some (.slice (some ⟨g, o, none⟩) 256 c) := by have q := cellOf hbx 0; rw [show ({ t with age := y + 1 } : Tk).b = b by rw [HTq.out]] at q; exact q
    have HCl := hid (show Calls Tryz.prog 140 #[.slice (some ⟨g, o, none⟩) 256 c] w2 (dPClone w2 t.f.now) by
      have q := slicesClone_any g o c t.f.now w2 (by rw [show t.f.now.length = 256 from hl]; decide) (by rw [show t.f.now.length = 256 from hl]; decide) (rangeOf hAt)
      rw [show t.f.now.length = 256 from hl] at q
      exact q)
    have HG' := hid hG'
    have HT2 := hid hT2
    clear hbx hAt hm' hG' hT2 hl
    go_wp2_with (go_at_call 140; refine HCl.out.mono ?_; rintro e w3 ⟨v3, rfl, h31, h32, h33⟩)
    go_ret2
    have q := get_fin (t := t) (s' := F.held s t.f.no t.f) (s := F.held s no ⟨no, bs, [], false, false⟩) HOO.out HA1.out (fun k hk => hk) ⟨_, HG'.out⟩ HT2.out ⟨.inl HP.out.op, .inl HP.out.oh, HT1.out.now.own⟩ HY.out.1 h31 h33 (by rw [HTq.out])
    rw [show t.f.now = bs by rw [HTq.out]] at q
    exact q
  · rw [if_neg hz, if_neg hz]
    have hz' : ((z : Int) != 0) = true := by simp; omega
    have HZ := hid hz
    clear hz
    go_enter Tryz.func114, Tryz.ntmps114
    go_wp2_with (first
      | (go_at_call 90; refine HA.out.mono ?_; rintro e _ ⟨rfl, hw⟩; rw [hw]; clear hw)
      | (at_lookup; refine wpList_lookup_p rfl _ _ 87 rfl 3 131 Tryz.underlying87 Tryz.underlying3 zeroPF hb rfl HMP.out _ rfl ?_; rw [HLK.out])
      | (go_at_call 139; refine HRd.out.mono ?_; rintro e w1 ⟨v1, rfl, H1⟩)
      | go_in)
    go_ret2
    obtain ⟨_, hA1⟩ : v1 = .pointer none ∧ Adds w w1 := by
      rcases H1.out with ⟨_, c⟩ | ⟨c, _⟩
      · exact c
      · exact absurd c HZ.out
    exact ⟨_, rfl, World.ownsRow_nil _ _ _ _, O, ⟨hb, y, G, HP.out.adds hA1, by have := HY.out; omega⟩, hA1.mono (fun _ _ c => c.elim), fun k hk => .inl hk, fun k hk => by cases hk⟩
set_option maxRecDepth 100000 in
/-- Get, by the pool's and the disk's states. -/
theorem bget_any {w : World} {O OD : Nat → Prop} {p dp : Nat} {s : F.Po} {D : dSt} {n k : Nat} (h : IsPool w O p dp s n) (hn : n + 1 ≤ 1000000) (hO : ∀ k, O k → k < w.heap.size) (hd : IsDO w OD dp D) (hk : DOk D k) (hk9 : k ≤ 900) (hok : POk s D) (hTb : Tab w) (no : Int) :
    Calls Tryz.prog 114 #[Ptr p, .int .i64 no] w (PGet w O p dp (F.getS s D no) (n + 1) (F.getE s D no) (F.getB s D no)) := by
  obtain ⟨hb, y, G, h, hy⟩ := h
  cases hno : F.inPool s no with
  | false =>
    have e1 : F.getE s D no = 2 := by unfold F.getE; rw [hno]; rfl
    have e2 : F.getS s D no = s := by unfold F.getS; rw [e1]; rfl
    have e3 : F.getB s D no = [] := by unfold F.getB; rw [e1]; rfl
    rw [e1, e2, e3]
    exact get_bad h (by omega) no hno
  | true =>
    rcases h.find no with ⟨t, ht, rfl, h1, _⟩ | ⟨_, h1, _⟩
    · have e1 : F.getE s D t.f.no = 0 := by unfold F.getE; rw [hno, h1]; rfl
      have e4 : F.getF s D t.f.no = t.f := by unfold F.getF; rw [h1]
      have e2 : F.getS s D t.f.no = F.held s t.f.no t.f := by unfold F.getS; rw [e1, e4]; rfl
      have e3 : F.getB s D t.f.no = t.f.now := by unfold F.getB; rw [e1, e4]; rfl
      rw [e1, e2, e3]
      exact get_held h (by omega) hn hO t ht hno
    · have e1 : F.getE s D no = F.rdE s D no := by unfold F.getE; rw [hno, h1]; rfl
      have e4 : F.getF s D no = ⟨no, F.rdB s D no, [], false, false⟩ := by unfold F.getF; rw [h1]
      have e2 : F.getS s D no = if F.rdE s D no = 0 then F.held s no ⟨no, F.rdB s D no, [], false, false⟩ else s := by unfold F.getS; rw [e1, e4]
      have e3 : F.getB s D no = if F.rdE s D no = 0 then F.rdB s D no else [] := by unfold F.getB; rw [e1, e4]
      rw [e1, e2, e3]
      exact get_new h (by omega) hn hO hd hk hk9 hok hTb no hno h1
end Go.Proofs.YtjlennpoaefllaaGreatDoor

/- The pool's call Put. -/
namespace Go.Proofs.YtjlennpoaefllaaGreatDoor
open Go.RowKit

/-- What a call leaves of a pool. -/
def PPut (w : World) (O : Nat → Prop) (p dp : Nat) (s : F.Po) (n : Nat) (z : Int) (e : Ending) (w' : World) : Prop := e = .returned (.int .i64 z) ∧ Hid (∃ O', IsPool w' O' p dp s n ∧ Touch O w w' ∧ ∀ k, O' k → O k ∨ (w.heap.size ≤ k ∧ k < w'.heap.size))
/-- What a page was as a dirty frame. -/
structure WasAt (w : World) (O : Nat → Prop) (s : F.Po) (G : List Tk) (no : Int) (v : Value) (wg wo wc : Nat) : Prop where
  is : v = if F.wasD s no then .slice (some ⟨wg, wo, none⟩) 256 wc else .slice none 0 0
  at' : F.wasD s no = true → WsAt w O wg wo wc (F.wasB s no)
  call : ∀ w', Adds w w' → Calls Tryz.prog 94 #[lk (G.map Tk.pr) no] w' (Tells v w')
set_option maxRecDepth 100000 in
theorem PoolAt.wasAt {w : World} {O : Nat → Prop} {p dp : Nat} {s : F.Po} {hb : Nat} {y : Int} {G : List Tk} (h : PoolAt w O p dp s hb y G) (no : Int) : ∃ v wg wo wc, WasAt w O s G no v wg wo wc := by
  rcases h.find no with ⟨t, ht, rfl, h1, h2⟩ | ⟨_, h1, h2⟩
  · have hD : F.wasD s t.f.no = t.f.dirty := by unfold F.wasD; rw [h1]
    obtain ⟨v, g, o, c, q1, q2⟩ := asDirty_any (h.at' t ht)
    refine ⟨v, g, o, c, by rw [hD]; exact q1.is, fun e => ?_, fun w' hA => by rw [h2]; exact q2 w' hA⟩
    rw [hD] at e
    have hB : F.wasB s t.f.no = if t.f.fresh then t.f.was else t.f.now := by unfold F.wasB; rw [h1]; simp [e]
    rw [hB]
    exact q1.at' e
  · have hD : F.wasD s no = false := by unfold F.wasD; rw [h1]
    refine ⟨.slice none 0 0, 0, 0, 0, by rw [hD]; rfl, (by rw [hD]; intro c; cases c), fun w' _ => ?_⟩
    rw [h2]; exact asDirty_nil w'
set_option maxRecDepth 100000 in
/-- A new frame is held. -/
theorem put_hold {w w2 w3 : World} {O : Nat → Prop} {p dp : Nat} {s : F.Po} {hb : Nat} {y : Int} {G : List Tk} {n : Nat} (h : PoolAt w O p dp s hb y G) (hy : y + 1 ≤ (n : Int)) (hn : n ≤ 1000000) {no : Int} {v : Value} {wg wo wc : Nat} (hw : WasAt w O s G no v wg wo wc) (hr : F.room s no = true) (hA : Adds w w2) (hA3 : Adds w2 w3)
    {g o k : Nat} {bs : List UInt8} (hl : bs.length = 256) (hat : At w3 (some ⟨g, o, none⟩) bs) (hgl : w.heap.size ≤ g) (hk : 256 ≤ k) :
    Calls Tryz.prog 93 #[Ptr p, .int .i64 no, .pointer (some ⟨w3.heap.size, 0, none⟩)] (w3.alloc (.cells #[.slice (some ⟨g, o, none⟩) 256 k, .int .i64 2, .int .i64 0, v] 134)) (fun e w' => e = .returned (.tuple #[]) ∧ Hid (∃ O', IsPool w' O' p dp (F.held s no ⟨no, bs, F.wasB s no, true, F.wasD s no⟩) n ∧ Touch O w w' ∧ ∀ k, O' k → O k ∨ (w.heap.size ≤ k ∧ k < w'.heap.size))) := by
  have hz2 := hA.size
  have hz3 := hA3.size
  have hgl3 : g < w3.heap.size := by
    obtain ⟨b', o', e', hc⟩ := hat 0 (bs[0]'(by omega)) (by simp)
    cases e'
    exact World.block_lt_of_cell? _ _ hc
  obtain ⟨w4, hw4⟩ : ∃ w4, w4 = w3.alloc (.cells #[.slice (some ⟨g, o, none⟩) 256 k, .int .i64 2, .int .i64 0, v] 134) := ⟨_, rfl⟩
  have hb4 : w4.heap[w3.heap.size]? = some (FBox g o k 2 0 v) := by rw [hw4]; exact heap_alloc_new w3 _
  have hz4 : w4.heap.size = w3.heap.size + 1 := by rw [hw4]; simp
  have hA4 : Adds w w4 := by rw [hw4]; exact (hA.trans hA3).alloc _
  have hA34 : Adds w3 w4 := by rw [hw4]; exact (Touch.refl _ w3).alloc _
  rw [← hw4]
  clear hw4
  obtain ⟨O1, hO1⟩ : ∃ O1 : Nat → Prop, O1 = fun k => O k ∨ (w.heap.size ≤ k ∧ k < w4.heap.size) := ⟨_, rfl⟩
  have hOO : ∀ k, O k → O1 k := fun k c => by rw [hO1]; exact .inl c
  obtain ⟨t, ht⟩ : ∃ t : Tk, t = ⟨⟨no, bs, F.wasB s no, true, F.wasD s no⟩, w3.heap.size, 0, wg, wo, wc⟩ := ⟨_, rfl⟩
  have hno : t.f.no = no := by rw [ht]
  have hbo : t.both = F.wasD s no := by rw [ht]; exact Bool.true_and _
  have hwp : t.wp = v := by rw [hw.is]; unfold Tk.wp; rw [hbo, ht]
  have hP4 : PoolAt w4 O1 p dp s hb y G := (h.adds hA4).mono hOO
  have hT4 : TkAt w4 O1 t := by
    refine ⟨?_, fun e => ?_⟩
    · rw [hwp, ht]
      refine ⟨g, o, k, hb4, ?_, ?_, hk, hl, hat.adds hA34⟩
      · rw [hO1]; exact .inr ⟨by show w.heap.size ≤ w3.heap.size; omega, by show w3.heap.size < _; omega⟩
      · rw [hO1]; exact .inr ⟨by omega, by omega⟩
    · rw [hbo] at e
      have q := hw.at' e
      rw [ht]
      exact (q.touch hA4 (fun _ _ => id)).mono hOO
  have hap : ((gs G t.f.no).flatMap Tk.bl ++ t.bl).Nodup := by
    rw [hno, List.nodup_append]
    have hold : ∀ x ∈ (gs G no).flatMap Tk.bl, x < w.heap.size := fun x hx => by
      obtain ⟨u, hu, hxu⟩ := List.mem_flatMap.1 hx
      exact (h.bl_lt (gs_mem.1 hu).1 hxu).1
    refine ⟨h.nd.sublist (sub_flat (gs_sub G _)), by simp [Tk.bl], fun x hx z hz e => ?_⟩
    have hz' : z = t.b := by simpa [Tk.bl] using hz
    have := hold x hx
    rw [e, hz', ht] at this
    exact absurd this (by show ¬ w3.heap.size < _; omega)
  have q := bhold_any hP4 (by omega) hT4 hap (by rw [hno]; exact hr)
  rw [hno, show t.b = w3.heap.size by rw [ht]] at q
  refine q.mono ?_
  rintro e w' ⟨rfl, H⟩
  obtain ⟨G', hG', _, hT⟩ := H.out
  have hzT := hT.size
  refine ⟨rfl, O1, ⟨hb, y + 1, G', ?_, hy⟩, ?_, fun k c => ?_⟩
  · have e2 : F.held s t.f.no t.f = F.held s no ⟨no, bs, F.wasB s no, true, F.wasD s no⟩ := by rw [ht]
    rw [← e2]; exact hG'
  · refine (hA4.mono (fun _ _ c => c.elim)).then hT (fun k hk c => ?_)
    rcases c with c | c | c
    · rw [c]; exact h.op
    · rw [c]; exact h.oh
    · rw [ht] at c
      exact absurd hk (by rw [c]; show ¬ w3.heap.size < _; omega)
  · rw [hO1] at c
    rcases c with c | c
    · exact .inl c
    · exact .inr ⟨c.1, by omega⟩
end Go.Proofs.YtjlennpoaefllaaGreatDoor

/- The pool's call Put: the walk. -/
namespace Go.Proofs.YtjlennpoaefllaaGreatDoor
open Go.RowKit

set_option maxRecDepth 100000 in
set_option maxHeartbeats 4000000 in
theorem put_no {w : World} {O : Nat → Prop} {p dp : Nat} {s : F.Po} {hb : Nat} {y : Int} {G : List Tk} {n : Nat} (h : PoolAt w O p dp s hb y G) (hy : y ≤ (n : Int)) (no : Int) (a : Option Addr) (bs : List UInt8) (m cap : Nat) (hm : bs.length = m) (hc : m ≤ cap) (hA : At w a bs) (hTb : Tab w) (hE : F.putE s no bs ≠ 0) :
    Calls Tryz.prog 53 #[Ptr p, .int .i64 no, .slice a m cap] w (PPut w O p dp s n (F.putE s no bs : Int)) := by
  have HA := hid (basked_any h no)
  have HI := hid (unsealed_any a bs m cap no w hm hc hA hTb)
  have HR := hid (fun w1 (hA : Adds w w1) => hasRoom_any (h.adds hA) no)
  have HP := hid (fun w1 (hA : Adds w w1) => show IsPool w1 O p dp s n from ⟨hb, y, G, h.adds hA, hy⟩)
  have HE : Hid (F.putE s no bs = if F.inPool s no then (if F.isE bs no = 0 then (if F.room s no then 0 else 33) else F.isE bs no) else 2) := by
    show _ = _
    unfold F.putE F.isE
    cases F.inPool s no <;> cases M.readP bs with
    | none => rfl
    | some q => by_cases c : (q.no : Int) ≠ no <;> simp [c]
  clear h hA hTb hm
  cases hq : F.inPool s no with
  | false =>
    rw [hq] at HA
    have hz : F.putE s no bs = 2 := by rw [HE.out, hq]; rfl
    rw [hz]
    clear hE hq hz HE
    go_enter Tryz.func53, Tryz.ntmps53
    go_wp2_with (go_at_call 90; refine HA.out.mono ?_; rintro e _ ⟨rfl, hw⟩; rw [hw]; clear hw)
    go_ret
    exact ⟨rfl, O, HP.out _ (Touch.refl _ _), Touch.refl _ _, fun k c => .inl c⟩
  | true =>
    rw [hq] at HA
    by_cases hi : F.isE bs no = 0
    · rw [hi] at HI
      cases hr : F.room s no with
      | true =>
        exact absurd (by rw [HE.out, hq, if_pos hi, hr]; rfl) hE
      | false =>
        rw [hr] at HR
        have hz : F.putE s no bs = 33 := by rw [HE.out, hq, if_pos hi, hr]; rfl
        rw [hz]
        clear hE hq hz HE hi hr
        go_enter Tryz.func53, Tryz.ntmps53
        go_wp2_with (first
          | (go_at_call 90; refine HA.out.mono ?_; rintro e _ ⟨rfl, hw⟩; rw [hw]; clear hw)
          | (go_at_call 91; refine HI.out.mono ?_; rintro e w1 ⟨a1, k1, rfl, H1⟩; have HA1 := hid H1.out.2.2.2)
          | (go_at_call 92; refine (HR.out w1 HA1.out).mono ?_; rintro e w2 ⟨rfl, hA2⟩; have HA2 := hid hA2; clear hA2))
        go_ret
        have hA := HA1.out.trans HA2.out
        exact ⟨rfl, O, HP.out _ hA, hA.mono (fun _ _ c => c.elim), fun k c => .inl c⟩
    · have hz : F.putE s no bs = F.isE bs no := by rw [HE.out, hq, if_neg hi]; rfl
      rw [hz]
      generalize F.isE bs no = z at *
      have hz' : ((z : Int) != 0) = true := by simp; omega
      clear hE hq hz HE hi
      go_enter Tryz.func53, Tryz.ntmps53
      go_wp2_with (first
        | (go_at_call 90; refine HA.out.mono ?_; rintro e _ ⟨rfl, hw⟩; rw [hw]; clear hw)
        | (go_at_call 91; refine HI.out.mono ?_; rintro e w1 ⟨a1, k1, rfl, H1⟩; have HA1 := hid H1.out.2.2.2))
      go_ret
      exact ⟨rfl, O, HP.out _ HA1.out, HA1.out.mono (fun _ _ c => c.elim), fun k c => .inl c⟩
set_option maxRecDepth 100000 in
set_option maxHeartbeats 4000000 in
theorem put_yes {w : World} {O : Nat → Prop} {p dp : Nat} {s : F.Po} {hb : Nat} {y : Int} {G : List Tk} {n : Nat} (h : PoolAt w O p dp s hb y G) (hy : y + 1 ≤ (n : Int)) (hn : n ≤ 1000000) (no : Int) (a : Option Addr) (bs : List UInt8) (m cap : Nat) (hm : bs.length = m) (hc : m ≤ cap) (hA : At w a bs) (hTb : Tab w) (hE : F.putE s no bs = 0) :
    Calls Tryz.prog 53 #[Ptr p, .int .i64 no, .slice a m cap] w (PPut w O p dp (F.putS s no bs) n 0) := by
  have hin : F.inPool s no = true := by
    unfold F.putE at hE
    split at hE
    · assumption
    · cases hE
  obtain ⟨q, hR, hqn, hroom⟩ : ∃ q, M.readP bs = some q ∧ (q.no : Int) = no ∧ F.room s no = true := by
    unfold F.putE at hE
    rw [if_pos hin] at hE
    split at hE
    · cases hE
    · rename_i q hq
      split at hE
      · cases hE
      · rename_i c
        split at hE
        · exact ⟨q, hq, Classical.byContradiction c, by assumption⟩
        · cases hE
  have hz : F.isE bs no = 0 := by unfold F.isE; rw [hR]; simp [hqn]
  have hU : F.uns bs no = F.nw bs := by unfold F.uns; rw [if_pos hz]
  have hS : F.putS s no bs = F.held s no ⟨no, F.nw bs, F.wasB s no, true, F.wasD s no⟩ := by unfold F.putS; rw [if_pos hE]
  rw [hS]
  have HA := hid (basked_any h no)
  rw [hin] at HA
  have HI := hid (unsealed_any a bs m cap no w hm hc hA hTb)
  rw [hz, hU] at HI
  have HR := hid (fun w1 (hA : Adds w w1) => hasRoom_any (h.adds hA) no)
  rw [hroom] at HR
  obtain ⟨v, wg, wo, wc, hw⟩ := h.wasAt no
  obtain ⟨va, vn, vc, rfl⟩ : ∃ va vn vc, v = .slice va vn vc := by rw [hw.is]; split <;> exact ⟨_, _, _, rfl⟩
  have HB := hid (fun w1 (hA : Adds w w1) => show w1.heap[p]? = some (PBox dp s hb y) from (h.adds hA).box)
  have HMs := hid (fun w1 (hA : Adds w w1) => (h.adds hA).mp)
  have HD := hid hw.call
  have hl := F.nw_len hR
  have HH := hid (fun (w2 : World) (hA2 : Adds w w2) (g o k : Nat) (hat : At w2 (some ⟨g, o, none⟩) (F.nw bs)) (hgl : w.heap.size ≤ g) (hk : 256 ≤ k) => put_hold h hy hn hw hroom hA2 (Touch.refl _ w2) hl hat hgl hk)
  have HBL := hid hl
  unfold Ptr at *
  clear h hA hTb hm hE hin hR hqn hroom hl hz hS hw hU
  obtain ⟨lv, hlk⟩ : ∃ lv, lk (G.map Tk.pr) no = lv := ⟨_, rfl⟩
  rw [hlk] at HD
  have HLK := hid hlk
  clear hlk
  generalize F.nw bs = cs at *
  go_enter Tryz.func53, Tryz.ntmps53
  go_upto_region 9 with (first
    | (go_at_call 90; refine HA.out.mono ?_; rintro e _ ⟨rfl, hw⟩; rw [hw]; clear hw)
    | (go_at_call 91; refine HI.out.mono ?_; rintro e w1 ⟨a1, k1, rfl, H1⟩; rw [HBL.out])
    | (go_at_call 92; refine (HR.out w1 H1.out.2.2.2).mono ?_; rintro e w2 ⟨rfl, hA2⟩; have HA12 := hid hA2; clear hA2))
  obtain ⟨g1, o1, e1⟩ := H1.out.1.ad (by rw [HBL.out]; decide)
  subst e1
  have HA2 := hid (H1.out.2.2.2.trans HA12.out)
  have HAt := hid (And.intro (H1.out.1.adds HA12.out) (And.intro (H1.out.2.2.1.2 g1 o1 rfl) (show 256 ≤ k1 by have := H1.out.2.1; rw [HBL.out] at this; exact this)))
  have c4 : w2.cell? ⟨p, 4, none⟩ = some (.map (some hb)) := cellOf (HB.out w2 HA2.out) 4
  have HMP := hid (HMs.out w2 HA2.out)
  go_wp2_with (first
    | (at_lookup; refine wpList_lookup_p rfl _ _ 87 rfl 3 131 Tryz.underlying87 Tryz.underlying3 zeroPF hb rfl HMP.out _ rfl ?_; rw [HLK.out])
    | (go_at_call 94; refine (HD.out _ HA2.out).mono ?_; rintro e _ ⟨rfl, hw⟩; rw [hw]; clear hw)
    | (go_at_call 93; refine (HH.out w2 HA2.out g1 o1 k1 HAt.out.1 HAt.out.2.1 HAt.out.2.2).mono ?_; rintro e w5 ⟨rfl, H5⟩)
    | go_in)
  go_ret
  exact ⟨rfl, H5.out⟩
set_option maxRecDepth 100000 in
/-- Put, by the pool's state. -/
theorem bput_any {w : World} {O : Nat → Prop} {p dp : Nat} {s : F.Po} {n : Nat} (h : IsPool w O p dp s n) (hn : n + 1 ≤ 1000000) (no : Int) (a : Option Addr) (bs : List UInt8) (m cap : Nat) (hm : bs.length = m) (hc : m ≤ cap) (hA : At w a bs) (hTb : Tab w) :
    Calls Tryz.prog 53 #[Ptr p, .int .i64 no, .slice a m cap] w (PPut w O p dp (F.putS s no bs) (n + 1) (F.putE s no bs : Int)) := by
  obtain ⟨hb, y, G, h, hy⟩ := h
  by_cases hE : F.putE s no bs = 0
  · have q := put_yes h (n := n + 1) (by omega) hn no a bs m cap hm hc hA hTb hE
    rw [hE]
    exact q
  · have e : F.putS s no bs = s := by unfold F.putS; rw [if_neg hE]
    rw [e]
    exact put_no h (n := n + 1) (by omega) no a bs m cap hm hc hA hTb hE
end Go.Proofs.YtjlennpoaefllaaGreatDoor

/- The numbers of the pages of some frames, rising. -/
namespace Go.Proofs.YtjlennpoaefllaaGreatDoor
open Go.RowKit

set_option maxRecDepth 100000 in
theorem info3 : ∃ i, Tryz.prog.info? 3 = some i ∧ i.zero = some (.int .i64 0) ∧ i.size = 1 ∧ i.bytes = 8 := by
  have h : (Tryz.prog.info? 3).map (fun i => (i.zero, i.size, i.bytes)) = some (some (.int .i64 0), 1, 8) := by kernel_rfl
  cases hq : Tryz.prog.info? 3 with
  | none => rw [hq] at h; cases h
  | some i =>
    rw [hq] at h
    simp only [Option.map_some, Option.some.injEq, Prod.mk.injEq] at h
    exact ⟨i, rfl, h.1, h.2.1, h.2.2⟩
set_option maxRecDepth 100000 in
/-- A number is put behind numbers of one's own. -/
theorem append_i1 {w : World} {ops : Array Oper} {rest : List Oper} {o : Oper} {act : Act} {Q : Exit → Act → World → Prop} (hgd : o.guard = none) (s x : Operand)
    (ho : o.op = .call { callee := .builtin .append, args := #[s, x], argTypes := #[64, 64] }) (B : Nat) (v : Value) (n : Nat) (xs : List Value) (hs : act.eval s = v) (hown : w.ownsRow B 3 1 v n xs)
    (g : Nat) (z : Int) (hx : act.eval x = .slice (some ⟨g, 0, none⟩) 1 1) (hc : w.cell? ⟨g, 0, none⟩ = some (.int .i64 z)) (hlen : n ≤ 10000000) (hB : B ≤ w.heap.size)
    (h : ∀ v' w', w'.ownsRow B 3 1 v' (n + 1) (xs ++ [.int .i64 z]) → w.grownBy w' v.ownBlock → wpList Tryz.prog ops Q rest (act.put o.dst v') w') : wpList Tryz.prog ops Q (o :: rest) act w := by
  obtain ⟨i0, hi, hz0, hz1, hz2⟩ := info3
  refine wpList_append_own_at _ hgd s x 64 ho B 3 i0 (.int .i64 0) 1 8 Tryz.underlying64 hi hz0 hz1 hz2 rfl (by decide) v n xs hs hown ⟨g, 0, none⟩ 1 1 [.int .i64 z] hx rfl ?_ (fun y hy => by rw [List.mem_singleton.1 hy]; rfl) (by unfold maxLen; omega) (by omega) hB (fun v' w' h1 h2 _ _ => h v' w' h1 h2)
  intro j y hj
  match j, hj with
  | 0, hj =>
    obtain rfl : Value.int .i64 z = y := by simpa using hj
    rw [Addr.add_mid]; exact hc
/-- What which tells. -/
def PNums (w : World) (zs : List Int) (e : Ending) (w' : World) : Prop := ∃ v, e = .returned v ∧ Hid (w'.ownsRow w.heap.size 3 1 v zs.length (I zs) ∧ Adds w w')
set_option maxRecDepth 100000 in
theorem row_keep {w w' : World} {B : Nat} {e : TypeId} {v : Value} {n : Nat} {xs : List Value} (h : w.ownsRow B e 1 v n xs) {T : Nat → Prop} (hT : Touch T w w') (hn : ∀ k, v.ownBlock = some k → ¬ T k) : w'.ownsRow B e 1 v n xs := by
  rcases h.2 with hq | ⟨g, cap, cur, rfl, hb, hg, rest⟩
  · exact ⟨h.1, .inl hq⟩
  · exact ⟨h.1, .inr ⟨g, cap, cur, rfl, hb, by rw [hT.block g (Array.getElem?_eq_some_iff.1 hg).1 (hn g rfl)]; exact hg, rest⟩⟩
/-- What is collected on the way. -/
structure Coll (w wr : World) (hb : Nat) (G : List Tk) (m : F.Fr → Bool) (lv : Value) (D T : List Tk) (zs : List Int) : Prop where
  perm : G.Perm (D ++ T)
  rg : Rg wr hb w.heap.size (G.map Tk.pr) (T.map Tk.pr)
  adds : Adds w wr
  row : wr.ownsRow (w.heap.size + 1) 3 1 lv zs.length (I zs)
  says : zs.Perm ((D.filter (fun t => m t.f)).map (fun t => t.f.no))
set_option maxRecDepth 100000 in
theorem Coll.len {w wr : World} {hb : Nat} {G : List Tk} {m : F.Fr → Bool} {lv : Value} {D T : List Tk} {zs : List Int} (h : Coll w wr hb G m lv D T zs) : zs.length ≤ G.length := by
  have h1 := h.says.length_eq
  have h2 := h.perm.length_eq
  have h3 := List.length_filter_le (fun t : Tk => m t.f) D
  rw [List.length_map] at h1
  rw [List.length_append] at h2
  omega
set_option maxRecDepth 100000 in
theorem Coll.done {w wr : World} {hb : Nat} {G : List Tk} {m : F.Fr → Bool} {lv : Value} {D : List Tk} {zs : List Int} (h : Coll w wr hb G m lv D [] zs) {s : F.Po} (hL : s.L = G.map (·.f)) : rise zs = F.which s m := by
  unfold F.which
  refine rise_of_perm (h.says.trans ?_)
  have hp : D.Perm G := by have := h.perm; rw [List.append_nil] at this; exact this.symm
  rw [hL, List.filter_map, List.map_map]
  exact ((hp.filter _).map _)
set_option maxRecDepth 100000 in
theorem Coll.skip {w wr w1 : World} {hb : Nat} {G : List Tk} {m : F.Fr → Bool} {lv : Value} {D T T' : List Tk} {zs : List Int} (h : Coll w wr hb G m lv D T zs) {t : Tk} (hp : T.Perm (t :: T')) (hR : Rg w1 hb w.heap.size (G.map Tk.pr) (T'.map Tk.pr)) (hT : Touch (fun k => k = w.heap.size) wr w1) (hm : m t.f = false) : Coll w w1 hb G m lv (t :: D) T' zs := by
  refine ⟨perm_move h.perm hp, hR, h.adds.then hT (fun i hi e => by omega), row_keep h.row hT (fun k hk e => ?_), ?_⟩
  · have := (row_low h.row hk).1
    omega
  · rw [List.filter_cons, hm]
    exact h.says
set_option maxRecDepth 100000 in
theorem Coll.take {w wr w1 w2 w3 : World} {hb : Nat} {G : List Tk} {m : F.Fr → Bool} {lv lv' : Value} {D T T' : List Tk} {zs : List Int} (h : Coll w wr hb G m lv D T zs) {t : Tk} (hp : T.Perm (t :: T')) (hR : Rg w1 hb w.heap.size (G.map Tk.pr) (T'.map Tk.pr)) (hT : Touch (fun k => k = w.heap.size) wr w1) (hm : m t.f = true)
    (hA : Adds w1 w2) (hrow : w3.ownsRow (w.heap.size + 1) 3 1 lv' (zs.length + 1) (I zs ++ [.int .i64 t.f.no])) (hg : w2.grownBy w3 lv.ownBlock) (hlt : hb < w.heap.size) : Coll w w3 hb G m lv' (t :: D) T' (zs ++ [t.f.no]) := by
  have h1 : Adds w w1 := h.adds.then hT (fun i hi e => by omega)
  have hlow : ∀ k, lv.ownBlock = some k → w.heap.size + 1 ≤ k := fun k hk => (row_low h.row hk).1
  have hT3 : Touch (fun k => lv.ownBlock = some k) w2 w3 := ⟨hg.os, hg.tape, hg.output, hg.size, fun k hk hn => hg.block k hk (fun e => hn e.symm)⟩
  refine ⟨perm_move h.perm hp, (hR.touch hA id id).touch hT3 (fun c => by have := hlow _ c; omega) (fun c => by have := hlow _ c; omega), (h1.trans hA).then hT3 (fun i hi c => by have := hlow _ c; omega), ?_, ?_⟩
  · have : I (zs ++ [t.f.no]) = I zs ++ [.int .i64 t.f.no] := by simp [I]
    rw [this, List.length_append]
    exact hrow
  · rw [List.filter_cons, hm, if_pos rfl, List.map_cons]
    exact (List.perm_append_comm (l₂ := [t.f.no])).trans (List.Perm.cons _ h.says)
set_option maxRecDepth 100000 in
set_option maxHeartbeats 4000000 in
theorem which_fresh {w : World} {O : Nat → Prop} {p dp : Nat} {s : F.Po} {hb : Nat} {y : Int} {G : List Tk} (h : PoolAt w O p dp s hb y G) (hlen : s.L.length ≤ 10000) : Calls Tryz.prog 98 #[Ptr p, .func (.func 99) #[] #[]] w (PNums w (F.which s F.isFresh)) := by
  have HM := hid (bmade_yes w p dp (cellOf h.box 0))
  have c4 : w.cell? ⟨p, 4, none⟩ = some (.map (some hb)) := cellOf h.box 4
  have HP := hid h
  have HMP := hid h.mp
  have HLen := hid (show G.length ≤ 10000 by rw [← h.len]; exact hlen)
  have HLt := hid h.mp.lt
  unfold Ptr at *
  clear h hlen
  go_enter Tryz.func98, Tryz.ntmps98
  go_wp2_with (first | (go_at_call 81; refine HM.out.mono ?_; rintro e _ ⟨rfl, hw⟩; rw [hw]; clear hw) | (at_range; refine wpList_range_p rfl _ 87 rfl 3 131 Tryz.underlying87 hb rfl HMP.out ?_; intro w0 hR0 hA0 hs0) | go_in)
  have HR0 := hid hR0
  have HA0 := hid hA0
  have HS0 := hid hs0
  clear hR0 hA0 hs0
  go_frame
  go_loopw [5] (fun lv wr => Hid (∃ D T zs, Coll w wr hb G F.isFresh lv D T zs)) (fun _ wr => wr.rangeLeft hb w.heap.size)
  case atStart => exact ⟨[], G, [], List.Perm.refl _, HR0.out, HA0.out, World.ownsRow_nil _ _ _ _, List.Perm.refl _⟩
  case round =>
    obtain ⟨D, T, zs, hC⟩ := hrel.out
    have HC := hid hC
    have HR := hid hC.rg
    clear hC hrel
    go_wp2_with (first | (at_next; refine wpList_next_t rfl _ rfl hb w.heap.size rfl HR.out ?_ ?_) | go_in)
    · intro hT0
      subst hT0
      have HSrt := hid (sort_any (row_base HC.out.row (fun _ _ => Nat.zero_le _)) (by have := HC.out.len; have := HLen.out; omega))
      go_wp2_with (go_at_call 132; refine HSrt.out.mono ?_; rintro e w2 ⟨rfl, hr2, hT2⟩)
      go_ret
      have e1 := HC.out.done HP.out.L
      rw [← e1]
      refine ⟨_, rfl, ?_, ?_⟩
      · rw [length_rise]
        exact row_base hr2 (fun k hk => by have := (row_low HC.out.row hk).1; omega)
      · exact HC.out.adds.then hT2 (fun i hi c => by have := (row_low HC.out.row c).1; omega)
    · intro t T' w1 hp hR1 hT1 hen
      have HQ := hid (And.intro hp (And.intro hR1 hT1))
      have HA1 := hid (show Adds w w1 from HC.out.adds.then hT1 (fun i hi e => by omega))
      have htG : t ∈ G := (perm_move HC.out.perm hp).mem_iff.2 (by simp)
      have HTk := hid ((HP.out.adds HA1.out).at' t htG)
      have HLn := hid (show T.length = T'.length + 1 by simpa using hp.length_eq)
      clear hp hR1 hT1
      cases hm : F.isFresh t.f with
      | false =>
        have HF : Hid (Calls Tryz.prog 99 #[.pointer (some ⟨t.b, 0, none⟩)] w1 (Tells (.bool false) w1)) := by
          rw [← hm]
          exact (by obtain ⟨g, o, c, hbx, _⟩ := HTk.out.now; exact isFresh_any w1 t.b (F.st t.f) _ (st_fresh t.f) (cellOf hbx 1))
        have HMf := hid hm
        clear hm
        go_wp2_with (first | (go_at_call 99; refine HF.out.mono ?_; rintro e _ ⟨rfl, hw⟩; rw [hw]; clear hw) | go_in)
        go_roundw
        case rel => exact ⟨_, _, _, HC.out.skip HQ.out.1 HQ.out.2.1 HQ.out.2.2 HMf.out⟩
        case measure => rw [HQ.out.2.1.left, HR.out.left, List.length_map, List.length_map, HLn.out]; omega
      | true =>
        have HF : Hid (Calls Tryz.prog 99 #[.pointer (some ⟨t.b, 0, none⟩)] w1 (Tells (.bool true) w1)) := by
          rw [← hm]
          exact (by obtain ⟨g, o, c, hbx, _⟩ := HTk.out.now; exact isFresh_any w1 t.b (F.st t.f) _ (st_fresh t.f) (cellOf hbx 1))
        have HMf := hid hm
        have HRow := hid (row_keep (HC.out.row) HQ.out.2.2 (fun k hk e => by have := (row_low HC.out.row hk).1; omega))
        have HB := hid (show w.heap.size + 1 ≤ w1.heap.size by have := HQ.out.2.1.lt; omega)
        clear hm
        go_wp2_with (first
          | (go_at_call 99; refine HF.out.mono ?_; rintro e _ ⟨rfl, hw⟩; rw [hw]; clear hw)
          | (at_builtin; refine append_i1 rfl _ _ rfl (w.heap.size + 1) _ _ _ rfl (row_keep HRow.out ((Touch.refl (fun _ => False) w1).alloc _) (fun _ _ => id)) w1.heap.size t.f.no rfl (cellOf (heap_alloc_new w1 _) 0) (by have := HC.out.len; have := HLen.out; omega) (by simp; have := HB.out; omega) ?_; intro v' w3 hr3 hg3; have H3 := hid (And.intro hr3 hg3); clear hr3 hg3)
          | go_in)
        go_roundw
        case rel => exact ⟨_, _, _, HC.out.take HQ.out.1 HQ.out.2.1 HQ.out.2.2 HMf.out ((Touch.refl _ w1).alloc _) H3.out.1 H3.out.2 HLt.out⟩
        case measure =>
          have q := (HC.out.take HQ.out.1 HQ.out.2.1 HQ.out.2.2 HMf.out ((Touch.refl _ w1).alloc _) H3.out.1 H3.out.2 HLt.out).rg
          rw [q.left, HR.out.left, List.length_map, List.length_map, HLn.out]; omega
set_option maxRecDepth 100000 in
set_option maxHeartbeats 4000000 in
theorem which_dirty {w : World} {O : Nat → Prop} {p dp : Nat} {s : F.Po} {hb : Nat} {y : Int} {G : List Tk} (h : PoolAt w O p dp s hb y G) (hlen : s.L.length ≤ 10000) : Calls Tryz.prog 98 #[Ptr p, .func (.func 100) #[] #[]] w (PNums w (F.which s F.isDirty)) := by
  have HM := hid (bmade_yes w p dp (cellOf h.box 0))
  have c4 : w.cell? ⟨p, 4, none⟩ = some (.map (some hb)) := cellOf h.box 4
  have HP := hid h
  have HMP := hid h.mp
  have HLen := hid (show G.length ≤ 10000 by rw [← h.len]; exact hlen)
  have HLt := hid h.mp.lt
  unfold Ptr at *
  clear h hlen
  go_enter Tryz.func98, Tryz.ntmps98
  go_wp2_with (first | (go_at_call 81; refine HM.out.mono ?_; rintro e _ ⟨rfl, hw⟩; rw [hw]; clear hw) | (at_range; refine wpList_range_p rfl _ 87 rfl 3 131 Tryz.underlying87 hb rfl HMP.out ?_; intro w0 hR0 hA0 hs0) | go_in)
  have HR0 := hid hR0
  have HA0 := hid hA0
  have HS0 := hid hs0
  clear hR0 hA0 hs0
  go_frame
  go_loopw [5] (fun lv wr => Hid (∃ D T zs, Coll w wr hb G F.isDirty lv D T zs)) (fun _ wr => wr.rangeLeft hb w.heap.size)
  case atStart => exact ⟨[], G, [], List.Perm.refl _, HR0.out, HA0.out, World.ownsRow_nil _ _ _ _, List.Perm.refl _⟩
  case round =>
    obtain ⟨D, T, zs, hC⟩ := hrel.out
    have HC := hid hC
    have HR := hid hC.rg
    clear hC hrel
    go_wp2_with (first | (at_next; refine wpList_next_t rfl _ rfl hb w.heap.size rfl HR.out ?_ ?_) | go_in)
    · intro hT0
      subst hT0
      have HSrt := hid (sort_any (row_base HC.out.row (fun _ _ => Nat.zero_le _)) (by have := HC.out.len; have := HLen.out; omega))
      go_wp2_with (go_at_call 132; refine HSrt.out.mono ?_; rintro e w2 ⟨rfl, hr2, hT2⟩)
      go_ret
      have e1 := HC.out.done HP.out.L
      rw [← e1]
      refine ⟨_, rfl, ?_, ?_⟩
      · rw [length_rise]
        exact row_base hr2 (fun k hk => by have := (row_low HC.out.row hk).1; omega)
      · exact HC.out.adds.then hT2 (fun i hi c => by have := (row_low HC.out.row c).1; omega)
    · intro t T' w1 hp hR1 hT1 hen
      have HQ := hid (And.intro hp (And.intro hR1 hT1))
      have HA1 := hid (show Adds w w1 from HC.out.adds.then hT1 (fun i hi e => by omega))
      have htG : t ∈ G := (perm_move HC.out.perm hp).mem_iff.2 (by simp)
      have HTk := hid ((HP.out.adds HA1.out).at' t htG)
      have HLn := hid (show T.length = T'.length + 1 by simpa using hp.length_eq)
      clear hp hR1 hT1
      cases hm : F.isDirty t.f with
      | false =>
        have HF : Hid (Calls Tryz.prog 100 #[.pointer (some ⟨t.b, 0, none⟩)] w1 (Tells (.bool false) w1)) := by
          rw [← hm]
          exact (dirty1_any HTk.out)
        have HMf := hid hm
        clear hm
        go_wp2_with (first | (go_at_call 100; refine HF.out.mono ?_; rintro e _ ⟨rfl, hw⟩; rw [hw]; clear hw) | go_in)
        go_roundw
        case rel => exact ⟨_, _, _, HC.out.skip HQ.out.1 HQ.out.2.1 HQ.out.2.2 HMf.out⟩
        case measure => rw [HQ.out.2.1.left, HR.out.left, List.length_map, List.length_map, HLn.out]; omega
      | true =>
        have HF : Hid (Calls Tryz.prog 100 #[.pointer (some ⟨t.b, 0, none⟩)] w1 (Tells (.bool true) w1)) := by
          rw [← hm]
          exact (dirty1_any HTk.out)
        have HMf := hid hm
        have HRow := hid (row_keep (HC.out.row) HQ.out.2.2 (fun k hk e => by have := (row_low HC.out.row hk).1; omega))
        have HB := hid (show w.heap.size + 1 ≤ w1.heap.size by have := HQ.out.2.1.lt; omega)
        clear hm
        go_wp2_with (first
          | (go_at_call 100; refine HF.out.mono ?_; rintro e _ ⟨rfl, hw⟩; rw [hw]; clear hw)
          | (at_builtin; refine append_i1 rfl _ _ rfl (w.heap.size + 1) _ _ _ rfl (row_keep HRow.out ((Touch.refl (fun _ => False) w1).alloc _) (fun _ _ => id)) w1.heap.size t.f.no rfl (cellOf (heap_alloc_new w1 _) 0) (by have := HC.out.len; have := HLen.out; omega) (by simp; have := HB.out; omega) ?_; intro v' w3 hr3 hg3; have H3 := hid (And.intro hr3 hg3); clear hr3 hg3)
          | go_in)
        go_roundw
        case rel => exact ⟨_, _, _, HC.out.take HQ.out.1 HQ.out.2.1 HQ.out.2.2 HMf.out ((Touch.refl _ w1).alloc _) H3.out.1 H3.out.2 HLt.out⟩
        case measure =>
          have q := (HC.out.take HQ.out.1 HQ.out.2.1 HQ.out.2.2 HMf.out ((Touch.refl _ w1).alloc _) H3.out.1 H3.out.2 HLt.out).rg
          rw [q.left, HR.out.left, List.length_map, List.length_map, HLn.out]; omega
set_option maxRecDepth 100000 in
set_option maxHeartbeats 4000000 in
theorem which_held {w : World} {O : Nat → Prop} {p dp : Nat} {s : F.Po} {hb : Nat} {y : Int} {G : List Tk} (h : PoolAt w O p dp s hb y G) (hlen : s.L.length ≤ 10000) : Calls Tryz.prog 98 #[Ptr p, .func (.func 101) #[] #[]] w (PNums w (F.which s F.isHeld)) := by
  have HM := hid (bmade_yes w p dp (cellOf h.box 0))
  have c4 : w.cell? ⟨p, 4, none⟩ = some (.map (some hb)) := cellOf h.box 4
  have HP := hid h
  have HMP := hid h.mp
  have HLen := hid (show G.length ≤ 10000 by rw [← h.len]; exact hlen)
  have HLt := hid h.mp.lt
  unfold Ptr at *
  clear h hlen
  go_enter Tryz.func98, Tryz.ntmps98
  go_wp2_with (first | (go_at_call 81; refine HM.out.mono ?_; rintro e _ ⟨rfl, hw⟩; rw [hw]; clear hw) | (at_range; refine wpList_range_p rfl _ 87 rfl 3 131 Tryz.underlying87 hb rfl HMP.out ?_; intro w0 hR0 hA0 hs0) | go_in)
  have HR0 := hid hR0
  have HA0 := hid hA0
  have HS0 := hid hs0
  clear hR0 hA0 hs0
  go_frame
  go_loopw [5] (fun lv wr => Hid (∃ D T zs, Coll w wr hb G F.isHeld lv D T zs)) (fun _ wr => wr.rangeLeft hb w.heap.size)
  case atStart => exact ⟨[], G, [], List.Perm.refl _, HR0.out, HA0.out, World.ownsRow_nil _ _ _ _, List.Perm.refl _⟩
  case round =>
    obtain ⟨D, T, zs, hC⟩ := hrel.out
    have HC := hid hC
    have HR := hid hC.rg
    clear hC hrel
    go_wp2_with (first | (at_next; refine wpList_next_t rfl _ rfl hb w.heap.size rfl HR.out ?_ ?_) | go_in)
    · intro hT0
      subst hT0
      have HSrt := hid (sort_any (row_base HC.out.row (fun _ _ => Nat.zero_le _)) (by have := HC.out.len; have := HLen.out; omega))
      go_wp2_with (go_at_call 132; refine HSrt.out.mono ?_; rintro e w2 ⟨rfl, hr2, hT2⟩)
      go_ret
      have e1 := HC.out.done HP.out.L
      rw [← e1]
      refine ⟨_, rfl, ?_, ?_⟩
      · rw [length_rise]
        exact row_base hr2 (fun k hk => by have := (row_low HC.out.row hk).1; omega)
      · exact HC.out.adds.then hT2 (fun i hi c => by have := (row_low HC.out.row c).1; omega)
    · intro t T' w1 hp hR1 hT1 hen
      have HQ := hid (And.intro hp (And.intro hR1 hT1))
      have HA1 := hid (show Adds w w1 from HC.out.adds.then hT1 (fun i hi e => by omega))
      have htG : t ∈ G := (perm_move HC.out.perm hp).mem_iff.2 (by simp)
      have HTk := hid ((HP.out.adds HA1.out).at' t htG)
      have HLn := hid (show T.length = T'.length + 1 by simpa using hp.length_eq)
      clear hp hR1 hT1
      cases hm : F.isHeld t.f with
      | false =>
        have HF : Hid (Calls Tryz.prog 101 #[.pointer (some ⟨t.b, 0, none⟩)] w1 (Tells (.bool false) w1)) := by
          rw [← hm]
          exact (held1_any w1 _)
        have HMf := hid hm
        clear hm
        go_wp2_with (first | (go_at_call 101; refine HF.out.mono ?_; rintro e _ ⟨rfl, hw⟩; rw [hw]; clear hw) | go_in)
        go_roundw
        case rel => exact ⟨_, _, _, HC.out.skip HQ.out.1 HQ.out.2.1 HQ.out.2.2 HMf.out⟩
        case measure => rw [HQ.out.2.1.left, HR.out.left, List.length_map, List.length_map, HLn.out]; omega
      | true =>
        have HF : Hid (Calls Tryz.prog 101 #[.pointer (some ⟨t.b, 0, none⟩)] w1 (Tells (.bool true) w1)) := by
          rw [← hm]
          exact (held1_any w1 _)
        have HMf := hid hm
        have HRow := hid (row_keep (HC.out.row) HQ.out.2.2 (fun k hk e => by have := (row_low HC.out.row hk).1; omega))
        have HB := hid (show w.heap.size + 1 ≤ w1.heap.size by have := HQ.out.2.1.lt; omega)
        clear hm
        go_wp2_with (first
          | (go_at_call 101; refine HF.out.mono ?_; rintro e _ ⟨rfl, hw⟩; rw [hw]; clear hw)
          | (at_builtin; refine append_i1 rfl _ _ rfl (w.heap.size + 1) _ _ _ rfl (row_keep HRow.out ((Touch.refl (fun _ => False) w1).alloc _) (fun _ _ => id)) w1.heap.size t.f.no rfl (cellOf (heap_alloc_new w1 _) 0) (by have := HC.out.len; have := HLen.out; omega) (by simp; have := HB.out; omega) ?_; intro v' w3 hr3 hg3; have H3 := hid (And.intro hr3 hg3); clear hr3 hg3)
          | go_in)
        go_roundw
        case rel => exact ⟨_, _, _, HC.out.take HQ.out.1 HQ.out.2.1 HQ.out.2.2 HMf.out ((Touch.refl _ w1).alloc _) H3.out.1 H3.out.2 HLt.out⟩
        case measure =>
          have q := (HC.out.take HQ.out.1 HQ.out.2.1 HQ.out.2.2 HMf.out ((Touch.refl _ w1).alloc _) H3.out.1 H3.out.2 HLt.out).rg
          rw [q.left, HR.out.left, List.length_map, List.length_map, HLn.out]; omega
set_option maxRecDepth 100000 in
set_option maxHeartbeats 400000 in
theorem bfresh_any {w : World} {O : Nat → Prop} {p dp : Nat} {s : F.Po} {n : Nat} (h : IsPool w O p dp s n) (hlen : s.L.length ≤ 10000) : Calls Tryz.prog 59 #[Ptr p] w (PNums w (F.which s F.isFresh)) := by
  obtain ⟨hb, y, G, h, _⟩ := h
  have H := hid (which_fresh h hlen)
  clear h hlen
  go_enter Tryz.func59, Tryz.ntmps59
  go_wp2_with (go_at_call 98; refine H.out.mono ?_; rintro e w1 ⟨v, rfl, H1⟩)
  go_ret
  exact ⟨v, rfl, H1⟩
set_option maxRecDepth 100000 in
set_option maxHeartbeats 400000 in
theorem bdirty_any {w : World} {O : Nat → Prop} {p dp : Nat} {s : F.Po} {n : Nat} (h : IsPool w O p dp s n) (hlen : s.L.length ≤ 10000) : Calls Tryz.prog 61 #[Ptr p] w (PNums w (F.which s F.isDirty)) := by
  obtain ⟨hb, y, G, h, _⟩ := h
  have H := hid (which_dirty h hlen)
  clear h hlen
  go_enter Tryz.func61, Tryz.ntmps61
  go_wp2_with (go_at_call 98; refine H.out.mono ?_; rintro e w1 ⟨v, rfl, H1⟩)
  go_ret
  exact ⟨v, rfl, H1⟩
set_option maxRecDepth 100000 in
set_option maxHeartbeats 400000 in
theorem bheld_any {w : World} {O : Nat → Prop} {p dp : Nat} {s : F.Po} {n : Nat} (h : IsPool w O p dp s n) (hlen : s.L.length ≤ 10000) : Calls Tryz.prog 62 #[Ptr p] w (PNums w (F.which s F.isHeld)) := by
  obtain ⟨hb, y, G, h, _⟩ := h
  have H := hid (which_held h hlen)
  clear h hlen
  go_enter Tryz.func62, Tryz.ntmps62
  go_wp2_with (go_at_call 98; refine H.out.mono ?_; rintro e w1 ⟨v, rfl, H1⟩)
  go_ret
  exact ⟨v, rfl, H1⟩
end Go.Proofs.YtjlennpoaefllaaGreatDoor

/- Frames change in place: the laws for Accept and Flush. -/
namespace Go.Proofs.YtjlennpoaefllaaGreatDoor
open Go.RowKit

namespace F
set_option maxRecDepth 100000 in
theorem acc_no (f : Fr) : (acc f).no = f.no := by unfold acc; split <;> rfl
set_option maxRecDepth 100000 in
theorem acc_acc (f : Fr) : acc (acc f) = acc f := by
  unfold acc
  cases h : f.fresh <;> simp [h]
/-- Some pages' frames are changed. -/
def updS (s : Po) (g : Fr → Fr) (ns : List Int) : Po := { s with L := s.L.map fun f => if ns.contains f.no then g f else f }
set_option maxRecDepth 100000 in
theorem updS_nil (s : Po) (g : Fr → Fr) : updS s g [] = s := by
  unfold updS
  simp
set_option maxRecDepth 100000 in
theorem updS_more {s : Po} {g : Fr → Fr} (hn : ∀ f, (g f).no = f.no) (hg : ∀ f, g (g f) = g f) (ns : List Int) (z : Int) : { updS s g ns with L := (updS s g ns).L.map fun f => if f.no = z then g f else f } = updS s g (ns ++ [z]) := by
  unfold updS
  simp only [List.map_map, Po.mk.injEq, true_and]
  refine List.map_congr_left (fun f _ => ?_)
  simp only [Function.comp]
  by_cases h1 : ns.contains f.no = true
  · have h2 : (ns ++ [z]).contains f.no = true := by simp at h1 ⊢; exact .inl h1
    rw [if_pos h1, if_pos h2, hn]
    split
    · exact hg f
    · rfl
  · rw [if_neg h1]
    by_cases h3 : f.no = z
    · have h2 : (ns ++ [z]).contains f.no = true := by simp [h3]
      rw [if_pos h3, if_pos h2]
    · have h2 : ¬ (ns ++ [z]).contains f.no = true := by simp at h1 ⊢; exact ⟨h1, h3⟩
      rw [if_neg h3, if_neg h2]
set_option maxRecDepth 100000 in
theorem mem_which {s : Po} {m : Fr → Bool} {z : Int} : z ∈ which s m ↔ ∃ f ∈ s.L, m f = true ∧ f.no = z := by
  unfold which
  rw [(rise_perm _).mem_iff]
  simp [List.mem_map, List.mem_filter, and_assoc]
set_option maxRecDepth 100000 in
/-- All of a kind are changed. -/
theorem updS_all {s : Po} {g : Fr → Fr} {m : Fr → Bool} (hg : ∀ f, m f = false → g f = f) : updS s g (which s m) = { s with L := s.L.map g } := by
  unfold updS
  simp only [Po.mk.injEq, true_and]
  refine List.map_congr_left (fun f hf => ?_)
  by_cases h : (which s m).contains f.no = true
  · rw [if_pos h]
  · rw [if_neg h]
    refine (hg f ?_).symm
    cases hm : m f
    · rfl
    · exact absurd (by simpa using mem_which.2 ⟨f, hf, hm, rfl⟩) h
end F
set_option maxRecDepth 100000 in
/-- One frame is changed. -/
theorem PoolAt.upd {w w' : World} {O : Nat → Prop} {p dp : Nat} {s : F.Po} {hb : Nat} {y : Int} {G : List Tk} (h : PoolAt w O p dp s hb y G) {t : Tk} (ht : t ∈ G) (g : Tk → Tk) (gf : F.Fr → F.Fr) (hg : ∀ u, (g u).b = u.b ∧ (g u).age = u.age ∧ (g u).f = gf u.f ∧ (gf u.f).no = u.f.no ∧ (g u).bl.Sublist u.bl)
    (hT : Touch (fun k => k = t.b) w w') (ht' : TkAt w' O (g t)) : PoolAt w' O p dp { s with L := s.L.map fun f => if f.no = t.f.no then gf f else f } hb y (G.map fun u => if u.f.no = t.f.no then g u else u) := by
  obtain ⟨g0, o0, c0, hb0, _⟩ := (h.at' t ht).now
  have hpb : p ≠ t.b := fun e => by have := h.box; rw [e, hb0] at this; cases this
  have hhb : hb ≠ t.b := fun e => by obtain ⟨es, clock, hm, _⟩ := h.mp; rw [e, hb0] at hm; cases hm
  have hnd := List.nodup_append.1 (gs_nodup h ht)
  refine ⟨?_, ?_, ?_, ?_, ?_, ?_, ?_, h.y0, h.op, h.oh⟩
  · rw [hT.block p (Array.getElem?_eq_some_iff.1 h.box).1 hpb]; exact h.box
  · have e : (G.map fun u => if u.f.no = t.f.no then g u else u).map Tk.pr = G.map Tk.pr := by
      rw [List.map_map]
      refine List.map_congr_left (fun u _ => ?_)
      simp only [Function.comp]
      split
      · unfold Tk.pr; rw [(hg u).1, (hg u).2.2.1, (hg u).2.2.2.1]
      · rfl
    rw [e]
    exact h.mp.touch hT hhb
  · show s.L.map _ = _
    rw [h.L, List.map_map, List.map_map]
    refine List.map_congr_left (fun u _ => ?_)
    simp only [Function.comp]
    split
    · exact (hg u).2.2.1.symm
    · rfl
  · intro u hu
    obtain ⟨v, hv, rfl⟩ := List.mem_map.1 hu
    split
    · rename_i e
      rw [mem_nodup h.once hv ht e]
      exact ht'
    · rename_i e
      have : ¬ t.b ∈ v.bl := fun c => hnd.2.2 t.b (List.mem_flatMap.2 ⟨v, gs_mem.2 ⟨hv, e⟩, c⟩) t.b (by simp [Tk.bl]) rfl
      exact (h.at' v hv).other hb0 t.wp_no hT this
  · have key : ∀ l : List Tk, ((l.map fun u => if u.f.no = t.f.no then g u else u).flatMap Tk.bl).Sublist (l.flatMap Tk.bl) := by
      intro l
      induction l with
      | nil => exact List.Sublist.refl _
      | cons x l ih =>
        rw [List.map_cons, List.flatMap_cons, List.flatMap_cons]
        refine List.Sublist.append ?_ ih
        split
        · exact (hg x).2.2.2.2
        · exact List.Sublist.refl _
    exact h.nd.sublist (key G)
  · rw [List.pairwise_map]
    refine h.age.imp (fun {a b} q => ?_)
    have e : ∀ u : Tk, (if u.f.no = t.f.no then g u else u).age = u.age := fun u => by split; exact (hg u).2.1; rfl
    rw [e, e]
    exact q
  · intro u hu
    obtain ⟨v, hv, rfl⟩ := List.mem_map.1 hu
    split
    · rw [(hg v).2.1]; exact h.le v hv
    · exact h.le v hv
/-- A frame that is accepted. -/
def Tk.acc (t : Tk) : Tk := { t with f := F.acc t.f }
set_option maxRecDepth 100000 in
theorem Tk.acc_is (u : Tk) : u.acc.b = u.b ∧ u.acc.age = u.age ∧ u.acc.f = F.acc u.f ∧ (F.acc u.f).no = u.f.no ∧ u.acc.bl.Sublist u.bl := by
  exact ⟨rfl, rfl, rfl, F.acc_no _, List.Sublist.refl _⟩
set_option maxRecDepth 100000 in
theorem PoolAt.accept {w w' : World} {O : Nat → Prop} {p dp : Nat} {s : F.Po} {hb : Nat} {y : Int} {G : List Tk} (h : PoolAt w O p dp s hb y G) {t : Tk} (ht : t ∈ G) (hf : t.f.fresh = true) (hw : w' = (w.setCell ⟨t.b, 1, none⟩ (.int .i64 1)).setCell ⟨t.b, 3, none⟩ (.slice none 0 0)) :
    PoolAt w' O p dp { s with L := s.L.map fun f => if f.no = t.f.no then F.acc f else f } hb y (G.map fun u => if u.f.no = t.f.no then u.acc else u) ∧ Touch (fun k => k = t.b) w w' := by
  have hT : Touch (fun k => k = t.b) w w' := by rw [hw]; exact Touch.setCell (T := fun k => k = t.b) (Touch.setCell (T := fun k => k = t.b) (Touch.refl _ w) (p := ⟨t.b, 1, none⟩) (fun _ => rfl) _) (p := ⟨t.b, 3, none⟩) (fun _ => rfl) _
  refine ⟨h.upd ht Tk.acc F.acc Tk.acc_is hT ⟨?_, ?_⟩, hT⟩
  · obtain ⟨g, o, c, h1, h2, h3, h4, h5, h6⟩ := (h.at' t ht).now
    have e1 : F.st t.acc.f = 1 := by show F.st (F.acc t.f) = 1; unfold F.acc F.st; rw [hf]; rfl
    have e2 : t.acc.wp = .slice none 0 0 := by show (if (F.acc t.f).fresh && (F.acc t.f).dirty then _ else _) = _; unfold F.acc; rw [hf]; rfl
    have e3 : t.acc.f.now = t.f.now := by show (F.acc t.f).now = _; unfold F.acc; rw [hf]; rfl
    rw [e1, e2, e3]
    refine ⟨g, o, c, ?_, h2, h3, h4, h5, h6.block (fun b' o' e hb => by cases e; exact hT.block _ hb (FrAt.ne h1 h6 h5 t.wp_no))⟩
    rw [hw]
    exact heap_setCell_same _ t.b 3 _ 134 _ (heap_setCell_same w t.b 1 _ 134 _ h1)
  · intro e
    have : t.acc.both = false := by show ((F.acc t.f).fresh && (F.acc t.f).dirty) = false; unfold F.acc; rw [hf]; rfl
    rw [this] at e
    cases e
set_option maxRecDepth 100000 in
/-- Numbers in a row, one by one. -/
theorem row_get {w : World} {B : Nat} {v : Value} {zs : List Int} (h : w.ownsRow B 3 1 v zs.length (I zs)) : ∃ a cap, v = .slice a zs.length cap ∧ ∀ i (hi : i < zs.length), ∃ b o, a = some ⟨b, o, none⟩ ∧ v.ownBlock = some b ∧ w.cell? ⟨b, o + i, none⟩ = some (.int .i64 zs[i]) := by
  obtain ⟨a, cap, e, _, _, hq⟩ := own_cq h
  refine ⟨a, cap, e, fun i hi => ?_⟩
  obtain ⟨b, o, e1, h1, h2⟩ := hq i (.int .i64 zs[i]) (by simp [I, hi])
  exact ⟨b, o, e1, h1, h2⟩
end Go.Proofs.YtjlennpoaefllaaGreatDoor

/- The pool's call Accept. -/
namespace Go.Proofs.YtjlennpoaefllaaGreatDoor
open Go.RowKit

set_option maxRecDepth 100000 in
theorem take_next' {zs : List Int} {i : Nat} (hi : i < zs.length) : zs.take (i + 1) = zs.take i ++ [zs[i]] := by simp
set_option maxRecDepth 100000 in
/-- The frame of a page that is not among those that were changed. -/
theorem upd_new {w : World} {O : Nat → Prop} {p dp : Nat} {s : F.Po} {g : F.Fr → F.Fr} {ns : List Int} {hb : Nat} {y : Int} {G : List Tk} (h : PoolAt w O p dp (F.updS s g ns) hb y G) {m : F.Fr → Bool} {z : Int} (hz : z ∈ F.which s m) (hn : ¬ z ∈ ns) :
    ∃ t ∈ G, t.f.no = z ∧ lk (G.map Tk.pr) z = .pointer (some ⟨t.b, 0, none⟩) ∧ t.f ∈ s.L ∧ m t.f = true := by
  obtain ⟨f, hf, hm, hno⟩ := F.mem_which.1 hz
  have hin : (if ns.contains f.no then g f else f) ∈ (F.updS s g ns).L := List.mem_map.2 ⟨f, hf, rfl⟩
  rw [if_neg (by simpa [hno] using hn), h.L] at hin
  obtain ⟨t, ht, e⟩ := List.mem_map.1 hin
  have hn' : t.f.no = z := by rw [e, hno]
  refine ⟨t, ht, hn', ?_, by rw [e]; exact hf, by rw [e]; exact hm⟩
  rw [← hn']; exact lk_some h.mp.once (List.mem_map_of_mem (f := Tk.pr) ht)
set_option maxRecDepth 100000 in
theorem which_nodup {w : World} {O : Nat → Prop} {p dp : Nat} {s : F.Po} {hb : Nat} {y : Int} {G : List Tk} (h : PoolAt w O p dp s hb y G) (m : F.Fr → Bool) : (F.which s m).Nodup := by
  unfold F.which
  rw [(rise_perm _).nodup_iff]
  have := h.once
  have e : (s.L.map (·.no)) = G.map (fun t => t.f.no) := by rw [h.L, List.map_map]; rfl
  rw [← e] at this
  exact this.sublist (List.filter_sublist.map _)
set_option maxRecDepth 100000 in
theorem not_take {zs : List Int} (hn : zs.Nodup) {i : Nat} (hi : i < zs.length) : ¬ zs[i] ∈ zs.take i := by
  intro c
  obtain ⟨j, hj, e⟩ := List.mem_iff_getElem.1 c
  rw [List.length_take] at hj
  rw [List.getElem_take] at e
  have := (List.getElem_inj hn).1 e
  omega
/-- What is left on the way through a list of pages. -/
structure Way (w wr : World) (O : Nat → Prop) (p dp : Nat) (s : F.Po) (g : F.Fr → F.Fr) (hb : Nat) (y : Int) (zs : List Int) (v : Value) (i : Nat) : Prop where
  pool : ∃ G, PoolAt wr O p dp (F.updS s g (zs.take i)) hb y G
  row : wr.ownsRow w.heap.size 3 1 v zs.length (I zs)
  touch : Touch O w wr
set_option maxRecDepth 100000 in
set_option maxHeartbeats 4000000 in
theorem baccept_any {w : World} {O : Nat → Prop} {p dp : Nat} {s : F.Po} {n : Nat} (h : IsPool w O p dp s n) (hO : ∀ k, O k → k < w.heap.size) (hlen : s.L.length ≤ 10000) : Calls Tryz.prog 44 #[Ptr p] w (PPut w O p dp (F.accS s) n ((F.which s F.isFresh).length : Int)) := by
  have HF := hid (bfresh_any h hlen)
  obtain ⟨hb, y, G, h, hy⟩ := h
  obtain ⟨zs, hzs⟩ : ∃ zs, zs = F.which s F.isFresh := ⟨_, rfl⟩
  rw [← hzs] at HF ⊢
  have HZ := hid hzs
  have HN := hid (show zs.Nodup by rw [hzs]; exact which_nodup h _)
  have HP := hid h
  have HY := hid hy
  have HO := hid hO
  have HS := hid (show F.updS s F.acc zs = F.accS s by
    rw [hzs]
    exact F.updS_all (fun f hf => by unfold F.isFresh at hf; unfold F.acc; rw [hf]; rfl))
  have hlz : zs.length ≤ 10000 := by
    have : zs.length = ((s.L.filter F.isFresh).map (·.no)).length := by rw [hzs]; exact length_rise _
    rw [this, List.length_map]
    exact Nat.le_trans (List.length_filter_le _ _) hlen
  unfold Ptr at *
  clear h hlen hzs hO hy
  go_enter Tryz.func44, Tryz.ntmps44
  go_upto_region 2 with (go_at_call 59; refine HF.out.mono ?_; rintro e w1 ⟨v1, rfl, H1⟩)
  obtain ⟨a1, k1, rfl, hget⟩ := row_get H1.out.1
  have HW : Hid (Way w w1 O p dp s F.acc hb y zs (.slice a1 zs.length k1) 0) := ⟨⟨G, by rw [List.take_zero, F.updS_nil]; exact HP.out.adds H1.out.2⟩, H1.out.1, H1.out.2.mono (fun _ _ c => c.elim)⟩
  clear hget
  generalize hzl : zs.length = zl at *
  have HZL := hid hzl
  clear hzl
  go_wp2_with fail
  go_loopw [11] (fun iv wr => ∃ i : Nat, iv = .int .i64 (i : Int) ∧ i ≤ zl ∧ Hid (Way w wr O p dp s F.acc hb y zs (.slice a1 zl k1) i)) (fun iv _ => zl - (intOf iv).toNat)
  case atStart => exact ⟨0, rfl, Nat.zero_le _, HW.out⟩
  case round =>
    obtain ⟨i, rfl, hi, HI⟩ := hrel
    by_cases hlt : i < zl
    · have hltz : (i : Int) < (zl : Int) := by omega
      have hlt' : i < zs.length := by rw [HZL.out]; exact hlt
      obtain ⟨G1, hG1⟩ := HI.out.pool
      have hrow := HI.out.row
      obtain ⟨a2, k2, e2, hget⟩ := row_get hrow
      obtain ⟨b, o, ea, hbo, hc⟩ := hget i hlt'
      rw [HZL.out] at e2
      cases e2
      subst ea
      obtain ⟨t, htG, htn, hlk, htL, htm⟩ := upd_new hG1 (m := F.isFresh) (z := zs[i]) (by rw [← HZ.out]; exact List.getElem_mem hlt') (not_take HN.out hlt')
      have c4 : wr.cell? ⟨p, 4, none⟩ = some (.map (some hb)) := cellOf hG1.box 4
      have HMP := hid hG1.mp
      have HLK := hid hlk
      obtain ⟨tg, tof, tc, htb, _⟩ := (hG1.at' t htG).now
      have e1 : wr.cell? ⟨t.b, 1, none⟩ = some (.int .i64 (F.st t.f)) := cellOf htb 1
      have e3 : wr.cell? ⟨t.b, 3, none⟩ = some t.wp := cellOf htb 3
      have f1 : wr.frozen? ⟨t.b, 1, none⟩ = false := frozen_of_row wr t.b 1 _ 134 htb
      have f3 : wr.frozen? ⟨t.b, 3, none⟩ = false := frozen_of_row wr t.b 3 _ 134 htb
      have HG1 := hid (And.intro hG1 (And.intro htG (And.intro htn htm)))
      obtain ⟨z, hz⟩ : ∃ z, z = zs[i] := ⟨_, rfl⟩
      rw [← hz] at hc HLK HG1
      have HZI := hid hz
      clear hG1 htG htn hlk htL htm htb hget hrow hz hbo
      go_wp2_with (first
        | (at_lookup; refine wpList_lookup_p rfl _ _ 87 rfl 3 131 Tryz.underlying87 Tryz.underlying3 zeroPF hb rfl HMP.out _ rfl ?_; rw [HLK.out])
        | go_in)
      go_roundw
      case rel =>
        obtain ⟨q1, q2⟩ := PoolAt.accept (w' := (wr.setCell ⟨t.b, 1, none⟩ (.int .i64 1)).setCell ⟨t.b, 3, none⟩ (.slice none 0 0)) HG1.out.1 HG1.out.2.1 HG1.out.2.2.2 rfl
        have hOb : O t.b := (HG1.out.1.at' t HG1.out.2.1).now.own
        refine ⟨i + 1, by go_num, by omega, ?_, row_keep HI.out.row q2 (fun k hk e => ?_), HI.out.touch.trans (q2.mono (fun k _ e => by rw [e]; exact hOb))⟩
        · rw [take_next' (by rw [HZL.out]; exact hlt), ← F.updS_more F.acc_no F.acc_acc]
          have := HZI.out
          rw [HG1.out.2.2.1] at q1
          rw [this] at q1
          exact ⟨_, q1⟩
        · have h1 := (row_low HI.out.row hk).1
          have h2 := HO.out _ hOb
          rw [e] at h1
          omega
      case measure => simp [intOf]; omega
    · have hltz : ¬ (i : Int) < (zl : Int) := by omega
      obtain rfl : i = zl := by omega
      go_wp2_with fail
      go_ret
      obtain ⟨G1, hG1⟩ := HI.out.pool
      rw [← HZL.out, List.take_length, HS.out] at hG1
      exact ⟨rfl, O, ⟨hb, y, G1, hG1, HY.out⟩, HI.out.touch, fun k hk => .inl hk⟩
end Go.Proofs.YtjlennpoaefllaaGreatDoor

/- Pages are laid down on the disk. -/
namespace Go.Proofs.YtjlennpoaefllaaGreatDoor
open Go.RowKit

namespace F
/-- What holds of each state of a pool. -/
structure Good (s : Po) : Prop where
  nos : ∀ f ∈ s.L, 0 ≤ f.no ∧ f.no < s.ct
  pgs : ∀ f ∈ s.L, ∃ q, M.readP f.now = some q ∧ (q.no : Int) = f.no
  was : ∀ f ∈ s.L, f.fresh = true → f.dirty = true → ∃ q, M.readP f.was = some q ∧ (q.no : Int) = f.no
  len : (s.L.length : Int) ≤ s.mo
  nd : (s.L.map (·.no)).Nodup
/-- The writes of a Flush. -/
def wrs (s : Po) (zs : List Int) (i : Nat) : Int × List UInt8 := (s.fr + zs.getD i 0, flD s (zs.getD i 0))
end F
set_option maxRecDepth 100000 in
theorem sealP_some {bs : List UInt8} {q : M.Pg} (h : M.readP bs = some q) : M.sealP bs = sealed (bs.take 252) := by unfold M.sealP; rw [h]
/-- On the way through the writes. -/
structure WWay (w wr : World) (O OD : Nat → Prop) (p dp : Nat) (s : F.Po) (hb : Nat) (y : Int) (G : List Tk) (zs : List Int) (D0 : dSt) (k0 i : Nat) : Prop where
  pool : PoolAt wr O p dp s hb y G
  disk : ∃ D' O', IsDO wr O' dp D' ∧ (∀ k, O' k → OD k ∨ (w.heap.size ≤ k ∧ k < wr.heap.size)) ∧ DOk D' (k0 + i) ∧ D'.size = D0.size ∧ goW (F.wrs s zs) (zs.length - i) i D' = goW (F.wrs s zs) zs.length 0 D0
  touch : Touch OD w wr
/-- What write leaves. -/
def PWrt (w : World) (OD : Nat → Prop) (dp : Nat) (x : Int × dSt) (e : Ending) (w' : World) : Prop := e = .returned (.int .i64 x.1) ∧ Hid (∃ O', IsDO w' O' dp x.2 ∧ Touch OD w w' ∧ ∀ k, O' k → OD k ∨ (w.heap.size ≤ k ∧ k < w'.heap.size))
set_option maxRecDepth 100000 in
set_option maxHeartbeats 4000000 in
theorem bwrite_any {w : World} {O OD : Nat → Prop} {p dp : Nat} {s : F.Po} {hb : Nat} {y : Int} {G : List Tk} {D : dSt} {k0 : Nat} (h : PoolAt w O p dp s hb y G) (hd : IsDO w OD dp D) (hk : DOk D k0) (hap : ∀ k, O k → ¬ OD k) (hOl : ∀ k, O k → k < w.heap.size) (hgd : F.Good s) (hok : POk s D) (hTt : ∀ w', Touch OD w w' → Tab w')
    (zs : List Int) (hz : zs = F.which s F.isDirty) (hk9 : k0 + zs.length ≤ 890) (a : Option Addr) (cap : Nat) (hrow : ∀ i (hi : i < zs.length), ∃ b o, a = some ⟨b, o, none⟩ ∧ ¬ OD b ∧ w.cell? ⟨b, o + i, none⟩ = some (.int .i64 zs[i])) :
    Calls Tryz.prog 82 #[Ptr p, .slice a zs.length cap] w (PWrt w OD dp (goW (F.wrs s zs) zs.length 0 D)) := by
  have HP := hid h
  have HW : Hid (WWay w w O OD p dp s hb y G zs D k0 0) := ⟨h, ⟨D, OD, hd, fun k c => .inl c, hk, rfl, rfl⟩, Touch.refl _ _⟩
  have HAp := hid hap
  have HOl := hid hOl
  have HGd := hid hgd
  have HOk := hid hok
  have HTt := hid hTt
  have HZ := hid hz
  have HK := hid hk9
  have HRow := hid hrow
  have hlz : zs.length ≤ 890 := by omega
  unfold Ptr at *
  clear h hd hk hap hOl hgd hok hTt hz hk9 hrow
  obtain ⟨zl, hzl⟩ : ∃ zl, zs.length = zl := ⟨_, rfl⟩
  rw [hzl] at HK hlz ⊢
  have HZL := hid hzl
  clear hzl
  go_enter Tryz.func82, Tryz.ntmps82
  go_wp2_with fail
  go_loopw [12] (fun iv wr => ∃ i : Nat, iv = .int .i64 (i : Int) ∧ i ≤ zl ∧ Hid (WWay w wr O OD p dp s hb y G zs D k0 i)) (fun iv _ => zl - (intOf iv).toNat)
  case atStart => exact ⟨0, rfl, Nat.zero_le _, HW.out⟩
  case round =>
    obtain ⟨i, rfl, hi, HI⟩ := hrel
    by_cases hlt : i < zl
    · have hltz : (i : Int) < (zl : Int) := by omega
      have hlt' : i < zs.length := by rw [HZL.out]; exact hlt
      obtain ⟨b, o, ea, hnb, hc0⟩ := HRow.out i hlt'
      have hc : wr.cell? ⟨b, o + i, none⟩ = some (.int .i64 zs[i]) := by
        rw [World.cell?_of_block (w := w) (HI.out.touch.block b (World.block_lt_of_cell? _ _ hc0) hnb)]
        exact hc0
      subst ea
      obtain ⟨z, hz⟩ : ∃ z, z = zs[i] := ⟨_, rfl⟩
      obtain ⟨t, htG, htn, hlk, htL, htm⟩ := upd_new (g := id) (ns := []) (m := F.isDirty) (z := z) (show PoolAt wr O p dp (F.updS s id []) hb y G by rw [F.updS_nil]; exact HI.out.pool) (by rw [hz, ← HZ.out]; exact List.getElem_mem hlt') (by simp)
      rw [← hz] at hc
      have hno := HGd.out.nos t.f htL
      obtain ⟨q, hq, hqn⟩ := HGd.out.pgs t.f htL
      have c4 : wr.cell? ⟨p, 4, none⟩ = some (.map (some hb)) := cellOf HI.out.pool.box 4
      have HMP := hid HI.out.pool.mp
      have HLK := hid hlk
      obtain ⟨tg, tof, tc, htb, _, _, htc, htl, hta⟩ := (HI.out.pool.at' t htG).now
      have e0 : wr.cell? ⟨t.b, 0, none⟩ = some (.slice (some ⟨tg, tof, none⟩) 256 tc) := cellOf htb 0
      have HSl := hid (gseal_some hq (some ⟨tg, tof, none⟩) tc wr htl htc hta (HTt.out wr HI.out.touch))
      have hgz : zs.getD i 0 = z := by rw [hz, List.getD_eq_getElem?_getD, List.getElem?_eq_getElem hlt']; rfl
      have HF := hid (show F.wrs s zs i = (s.fr + z, sealed (t.f.now.take 252)) by
        unfold F.wrs F.flD
        rw [hgz]
        rcases HI.out.pool.find z with ⟨u, hu, hun, h1, _⟩ | ⟨h1, _⟩
        · rw [h1, mem_nodup HI.out.pool.once hu htG (by rw [hun, htn])]
          rw [← sealP_some hq]
        · exact absurd htn (h1 t htG))
      have hwr : wrap64 (s.fr + z) = s.fr + z := by rw [← htn]; have := HOk.out.fr0; have := HOk.out.fit; have := HOk.out.size; simp [wrap64]; omega
      have hwi : IntKind.i64.wrap (s.fr + z) = s.fr + z := by rw [IntKind.wrap_i64, ← htn]; have := HOk.out.fr0; have := HOk.out.fit; have := HOk.out.size; omega
      have HIx := hid (show 0 ≤ s.fr + z ∧ s.fr + z < D.size by rw [← htn]; have := HOk.out.fr0; have := HOk.out.fit; omega)
      have HWR := hid (And.intro hwr hwi)
      obtain ⟨D', O', hD', hO', hK', hS', hG'⟩ := HI.out.disk
      have HD' := hid hD'
      have HE := hid (And.intro hO' (And.intro hK' (And.intro hS' hG')))
      clear htG htn hlk htL htm htb hta hno hq hqn hz hgz hD' hO' hK' hS' hG' hc0 hnb
      generalize sealed (t.f.now.take 252) = sb at *
      go_upto_region 7 with (first
        | (at_lookup; refine wpList_lookup_p rfl _ _ 87 rfl 3 131 Tryz.underlying87 Tryz.underlying3 zeroPF hb rfl HMP.out _ rfl ?_; rw [HLK.out])
        | (go_at_call 122; refine HSl.out.mono ?_; rintro e w2 ⟨g2, k2, rfl, H2⟩)
        | go_in)
      have HA2 := hid H2.out.2.2.2.2
      have HP2 := hid (HI.out.pool.adds HA2.out)
      have c0 : w2.cell? ⟨p, 0, none⟩ = some (.pointer (some ⟨dp, 0, none⟩)) := cellOf HP2.out.box 0
      have c1 : w2.cell? ⟨p, 1, none⟩ = some (.int .i64 s.fr) := cellOf HP2.out.box 1
      have HWt := hid (fun (w3 : World) (hA : Adds w2 w3) (zi : Int) (hzi : zi = s.fr + z) => show Calls Tryz.prog 123 #[.pointer (some ⟨dp, 0, none⟩), .int .i64 zi, .slice (some ⟨g2, 0, none⟩) 256 k2] w3 (PDo w3 O' dp (if D'.left = 0 then 10 else 0) (if D'.left = 0 then D' else D'.wrote (s.fr + z) sb)) by
        rw [hzi]
        exact dput_any ((HD'.out.adds HA2.out).adds hA) HE.out.2.1 (by have := HK.out; omega) (s.fr + z) (by rw [HE.out.2.2.1]; exact HIx.out) g2 k2 sb H2.out.2.1 ((At.own H2.out.2.2.2.1).adds hA))
      by_cases hoff : D'.left = 0
      · rw [if_pos hoff, if_pos hoff] at HWt
        go_cut [9] (fun v9 w4 => v9 = .int .i64 10 ∧ Hid (∃ O4, IsDO w4 O4 dp D' ∧ Touch O' w2 w4 ∧ ∀ k, O4 k → O' k ∨ (w2.heap.size ≤ k ∧ k < w4.heap.size)))
        case first =>
          go_region_with (go_at_call 123; refine (HWt.out _ (Touch.refl _ w2).drew _ (by first | rfl | exact HWR.out.1 | exact HWR.out.2)).mono ?_; rintro e w4 ⟨rfl, H4⟩)
          all_goals
            go_wp2
            go_meet
            case rel =>
              obtain ⟨O4, h1, h2, h3⟩ := H4.out
              exact ⟨rfl, O4, h1, ((Touch.refl _ w2).drew).trans h2, h3⟩
        case rest =>
          obtain ⟨rfl, H4⟩ := hcut
          go_wp2
          go_ret
          obtain ⟨O4, h1, h2, h3⟩ := H4.out
          have e1 : goW (F.wrs s zs) zl 0 D = (10, D') := by
            rw [← HZL.out, ← HE.out.2.2.2, show zs.length - i = (zs.length - i - 1) + 1 by omega, goW, if_pos hoff]
          rw [e1]
          have z1 := HI.out.touch.size
          have z2 := HA2.out.size
          have z4 := h2.size
          refine ⟨rfl, O4, h1, (HI.out.touch.trans (HA2.out.mono (fun _ _ c => c.elim))).then h2 (fun k hk c => ?_), fun k c => ?_⟩
          · rcases HE.out.1 k c with c | c
            · exact c
            · omega
          · rcases h3 k c with c | c
            · rcases HE.out.1 k c with c | c
              · exact .inl c
              · exact .inr ⟨c.1, by omega⟩
            · exact .inr ⟨by omega, c.2⟩
      · rw [if_neg hoff, if_neg hoff] at HWt
        go_cut [9] (fun v9 w4 => v9 = .int .i64 0 ∧ Hid (∃ O4, IsDO w4 O4 dp (D'.wrote (s.fr + z) sb) ∧ Touch O' w2 w4 ∧ ∀ k, O4 k → O' k ∨ (w2.heap.size ≤ k ∧ k < w4.heap.size)))
        case first =>
          go_region_with (go_at_call 123; refine (HWt.out _ (Touch.refl _ w2).drew _ (by first | rfl | exact HWR.out.1 | exact HWR.out.2)).mono ?_; rintro e w4 ⟨rfl, H4⟩)
          all_goals
            go_wp2
            go_meet
            case rel =>
              obtain ⟨O4, h1, h2, h3⟩ := H4.out
              exact ⟨rfl, O4, h1, ((Touch.refl _ w2).drew).trans h2, h3⟩
        case rest =>
          obtain ⟨rfl, H4⟩ := hcut
          go_wp2
          go_roundw
          case rel =>
            obtain ⟨O4, h1, h2, h3⟩ := H4.out
            have z1 := HI.out.touch.size
            have z2 := HA2.out.size
            have z4 := h2.size
            have hT4 : Touch OD w wc := (HI.out.touch.trans (HA2.out.mono (fun _ _ c => c.elim))).then h2 (fun k hk c => by
              rcases HE.out.1 k c with c | c
              · exact c
              · omega)
            refine ⟨i + 1, by go_num, by omega, HP2.out.touch h2 (fun k hk c => ?_), ⟨_, O4, h1, fun k c => ?_, (HE.out.2.1.wrote _ _).mono (by omega), HE.out.2.2.1, ?_⟩, hT4⟩
            · have := HOl.out k hk
              rcases HE.out.1 k c with c | c
              · exact HAp.out k hk c
              · omega
            · rcases h3 k c with c | c
              · rcases HE.out.1 k c with c | c
                · exact .inl c
                · exact .inr ⟨c.1, by omega⟩
              · exact .inr ⟨by omega, c.2⟩
            · rw [← HE.out.2.2.2, show zs.length - i = (zs.length - (i + 1)) + 1 by omega, goW, if_neg hoff, HF.out]
          case measure => simp [intOf]; omega
    · have hltz : ¬ (i : Int) < (zl : Int) := by omega
      obtain rfl : i = zl := by omega
      obtain ⟨D', O', hD', hO', hK', hS', hG'⟩ := HI.out.disk
      have c0 : wr.cell? ⟨p, 0, none⟩ = some (.pointer (some ⟨dp, 0, none⟩)) := cellOf HI.out.pool.box 0
      have HSy := hid (show Calls Tryz.prog 124 #[.pointer (some ⟨dp, 0, none⟩)] wr _ from dsync_do hD' hK' (by have := HK.out; omega))
      have HG := hid (And.intro hG' hO')
      clear hD' hK' hS' hG' hO'
      generalize hsz : (if D'.left = 0 then (10 : Int) else 0) = sz at *
      generalize hsd : (if D'.left = 0 then D' else D'.synced) = sd at *
      have HSZ := hid (And.intro hsz hsd)
      clear hsz hsd
      go_wp2_with (go_at_call 124; refine HSy.out.mono ?_; rintro e w2 ⟨rfl, H2⟩)
      go_ret
      obtain ⟨O2, h1, h2, h3⟩ := H2.out
      have e1 : goW (F.wrs s zs) i 0 D = (sz, sd) := by
        rw [← HZL.out, ← HG.out.1, HZL.out, Nat.sub_self, goW, ← HSZ.out.1, ← HSZ.out.2]
        split <;> rfl
      rw [e1]
      have z1 := HI.out.touch.size
      have z2 := h2.size
      refine ⟨rfl, O2, h1, HI.out.touch.then h2 (fun k hk c => ?_), fun k c => ?_⟩
      · rcases HG.out.2 k c with c | c
        · exact c
        · omega
      · rcases h3 k c with c | c
        · rcases HG.out.2 k c with c | c
          · exact .inl c
          · exact .inr ⟨c.1, by omega⟩
        · exact .inr ⟨by omega, c.2⟩
end Go.Proofs.YtjlennpoaefllaaGreatDoor

/- The pool's call Flush. -/
namespace Go.Proofs.YtjlennpoaefllaaGreatDoor
open Go.RowKit

namespace F
/-- A frame that was written. -/
def cln (f : Fr) : Fr := if f.fresh then f else { f with dirty := false }
set_option maxRecDepth 100000 in
theorem cln_no (f : Fr) : (cln f).no = f.no := by unfold cln; split <;> rfl
set_option maxRecDepth 100000 in
theorem cln_cln (f : Fr) : cln (cln f) = cln f := by
  unfold cln
  cases h : f.fresh <;> simp [h]
/-- Flush: the answer and the disk; the state behind it. -/
def flX (s : Po) (D : dSt) : Int × dSt := if which s isFresh = [] then (if which s isDirty = [] then (0, D) else goW (wrs s (which s isDirty)) (which s isDirty).length 0 D) else (42, D)
def flS (s : Po) (D : dSt) : Po := if (flX s D).1 = 0 then { s with L := s.L.map cln } else s
set_option maxRecDepth 100000 in
theorem which_nil {s : Po} {m : Fr → Bool} (h : which s m = []) : ∀ f ∈ s.L, m f = false := by
  intro f hf
  cases hm : m f
  · rfl
  · have := mem_which.2 ⟨f, hf, hm, rfl⟩
    rw [h] at this
    cases this
end F
def Tk.cln (t : Tk) : Tk := { t with f := F.cln t.f }
set_option maxRecDepth 100000 in
theorem Tk.cln_is (u : Tk) : u.cln.b = u.b ∧ u.cln.age = u.age ∧ u.cln.f = F.cln u.f ∧ (F.cln u.f).no = u.f.no ∧ u.cln.bl.Sublist u.bl := by
  exact ⟨rfl, rfl, rfl, F.cln_no _, List.Sublist.refl _⟩
set_option maxRecDepth 100000 in
theorem PoolAt.clean {w w' : World} {O : Nat → Prop} {p dp : Nat} {s : F.Po} {hb : Nat} {y : Int} {G : List Tk} (h : PoolAt w O p dp s hb y G) {t : Tk} (ht : t ∈ G) (hf : t.f.fresh = false) (hw : w' = w.setCell ⟨t.b, 1, none⟩ (.int .i64 0)) :
    PoolAt w' O p dp { s with L := s.L.map fun f => if f.no = t.f.no then F.cln f else f } hb y (G.map fun u => if u.f.no = t.f.no then u.cln else u) ∧ Touch (fun k => k = t.b) w w' := by
  have hT : Touch (fun k => k = t.b) w w' := by rw [hw]; exact Touch.setCell (T := fun k => k = t.b) (Touch.refl _ w) (p := ⟨t.b, 1, none⟩) (fun _ => rfl) _
  refine ⟨h.upd ht Tk.cln F.cln Tk.cln_is hT ⟨?_, ?_⟩, hT⟩
  · obtain ⟨g, o, c, h1, h2, h3, h4, h5, h6⟩ := (h.at' t ht).now
    have e1 : F.st t.cln.f = 0 := by show F.st (F.cln t.f) = 0; unfold F.cln F.st; rw [hf]; simp
    have e2 : t.cln.wp = t.wp := by
      show (if (F.cln t.f).fresh && (F.cln t.f).dirty then _ else _) = (if t.f.fresh && t.f.dirty then _ else _)
      unfold F.cln; rw [hf]; simp
    have e3 : t.cln.f.now = t.f.now := by show (F.cln t.f).now = _; unfold F.cln; rw [hf]; rfl
    rw [e1, e2, e3]
    refine ⟨g, o, c, ?_, h2, h3, h4, h5, h6.block (fun b' o' e hb => by cases e; exact hT.block _ hb (FrAt.ne h1 h6 h5 t.wp_no))⟩
    rw [hw]
    exact heap_setCell_same w t.b 1 _ 134 _ h1
  · intro e
    have : t.cln.both = false := by show ((F.cln t.f).fresh && (F.cln t.f).dirty) = false; unfold F.cln; rw [hf]; simp
    rw [this] at e
    cases e
/-- What Flush leaves. -/
def PFl (w : World) (O OD : Nat → Prop) (p dp : Nat) (s : F.Po) (n : Nat) (z : Int) (D : dSt) (e : Ending) (w' : World) : Prop := e = .returned (.int .i64 z) ∧ Hid (IsPool w' O p dp s n ∧ ∃ O', IsDO w' O' dp D ∧ Touch (fun k => O k ∨ OD k) w w' ∧ ∀ k, O' k → OD k ∨ (w.heap.size ≤ k ∧ k < w'.heap.size))
/-- On the way through what is clean. -/
structure CWay (w wr : World) (O OD : Nat → Prop) (p dp : Nat) (s : F.Po) (hb : Nat) (y : Int) (zs : List Int) (v : Value) (B : Nat) (D : dSt) (i : Nat) : Prop where
  pool : ∃ G, PoolAt wr O p dp (F.updS s F.cln (zs.take i)) hb y G
  row : wr.ownsRow B 3 1 v zs.length (I zs)
  disk : ∃ O', IsDO wr O' dp D ∧ ∀ k, O' k → OD k ∨ (w.heap.size ≤ k ∧ k < wr.heap.size)
  touch : Touch (fun k => O k ∨ OD k) w wr
set_option maxRecDepth 100000 in
set_option maxHeartbeats 4000000 in
theorem bflush_any {w : World} {O OD : Nat → Prop} {p dp : Nat} {s : F.Po} {n : Nat} {D : dSt} {k0 : Nat} (h : IsPool w O p dp s n) (hd : IsDO w OD dp D) (hk : DOk D k0) (hap : ∀ k, O k → ¬ OD k) (hOl : ∀ k, O k ∨ OD k → k < w.heap.size) (hgd : F.Good s) (hok : POk s D) (hTt : ∀ w', Touch (fun k => O k ∨ OD k) w w' → Tab w') (hk9 : k0 + (F.which s F.isDirty).length ≤ 890) :
    Calls Tryz.prog 48 #[Ptr p] w (PFl w O OD p dp (F.flS s D) n (F.flX s D).1 (F.flX s D).2) := by
  have hlen : s.L.length ≤ 10000 := by have := hgd.len; have := hok.mo2; omega
  have HFr := hid (bfresh_any h hlen)
  have HDi := hid (fun w1 (hA : Adds w w1) => bdirty_any (h.adds hA) hlen)
  obtain ⟨hb, y, G, h, hy⟩ := h
  have HM := hid (bmade_yes w p dp (cellOf h.box 0))
  have HP := hid h
  have HY := hid hy
  have HD := hid hd
  have HOl := hid hOl
  have HAp := hid hap
  unfold Ptr at *
  by_cases hq : F.which s F.isFresh = []
  · rw [hq] at HFr
    by_cases hq2 : F.which s F.isDirty = []
    · have e1 : F.flX s D = (0, D) := by unfold F.flX; rw [if_pos hq, if_pos hq2]
      have e2 : F.flS s D = s := by
        unfold F.flS
        rw [e1, if_pos rfl]
        have : s.L.map F.cln = s.L := by
          conv => rhs; rw [← List.map_id s.L]
          refine List.map_congr_left (fun f hf => ?_)
          have a1 := F.which_nil hq f hf
          have a2 := F.which_nil hq2 f hf
          unfold F.isFresh at a1
          unfold F.isDirty at a2
          unfold F.cln
          rw [a1]
          cases f
          simp_all
        rw [this]
      rw [e1, e2]
      rw [hq2] at HDi
      clear h hd hk hap hOl hgd hok hTt hk9 hy hq hq2 e1 e2 hlen
      go_enter Tryz.func48, Tryz.ntmps48
      go_wp2_with (first
        | (go_at_call 81; refine HM.out.mono ?_; rintro e _ ⟨rfl, hw⟩; rw [hw]; clear hw)
        | (go_at_call 59; refine HFr.out.mono ?_; rintro e w1 ⟨v1, rfl, H1⟩; obtain ⟨a1, k1, rfl, _⟩ := row_get H1.out.1)
        | (go_at_call 61; refine (HDi.out w1 H1.out.2).mono ?_; rintro e w2 ⟨v2, rfl, H2⟩; obtain ⟨a2, k2, rfl, _⟩ := row_get H2.out.1))
      go_ret
      have hA := H1.out.2.trans H2.out.2
      have hz := hA.size
      exact ⟨rfl, ⟨hb, y, G, HP.out.adds hA, HY.out⟩, OD, HD.out.adds hA, hA.mono (fun _ _ c => c.elim), fun k c => .inl c⟩
    · obtain ⟨zs, hzs⟩ : ∃ zs, zs = F.which s F.isDirty := ⟨_, rfl⟩
      have e1 : F.flX s D = goW (F.wrs s zs) zs.length 0 D := by unfold F.flX; rw [if_pos hq, if_neg hq2, hzs]
      have HFs := hid (show F.flS s D = if (goW (F.wrs s zs) zs.length 0 D).1 = 0 then { s with L := s.L.map F.cln } else s by unfold F.flS; rw [e1])
      rw [e1]
      rw [← hzs] at HDi hk9 hq2
      have HNf := hid (F.which_nil hq)
      have HZ := hid hzs
      have HN := hid (show zs.Nodup by rw [hzs]; exact which_nodup h _)
      have HS := hid (show F.updS s F.cln zs = { s with L := s.L.map F.cln } by
        rw [hzs]
        exact F.updS_all (fun f hf => by unfold F.isDirty at hf; unfold F.cln; split; rfl; cases f; simp_all))
      have hlz : 0 < zs.length := List.length_pos_iff.2 hq2
      have HWr := hid (fun (w2 : World) (hA : Adds w w2) (a2 : Option Addr) (c2 : Nat) (hrow : w2.ownsRow w.heap.size 3 1 (.slice a2 zs.length c2) zs.length (I zs)) => show Calls Tryz.prog 82 #[.pointer (some ⟨p, 0, none⟩), .slice a2 zs.length c2] w2 (PWrt w2 OD dp (goW (F.wrs s zs) zs.length 0 D)) by
        refine bwrite_any (h.adds hA) (hd.adds hA) hk hap (fun k c => Nat.lt_of_lt_of_le (hOl k (.inl c)) hA.size) hgd hok (fun w' hT => hTt w' ?_) zs hzs hk9 a2 c2 (fun i hi => ?_)
        · exact (hA.mono (fun _ _ c => c.elim)).then hT (fun _ _ c => .inr c)
        · obtain ⟨a3, c3, e3, hget⟩ := row_get hrow
          cases e3
          obtain ⟨b, o, ea, hb', hc⟩ := hget i hi
          exact ⟨b, o, ea, fun c => by have := (row_low hrow hb').1; have := hOl b (.inr c); omega, hc⟩)
      have HL9 := hid hk9
      clear h hd hk hap hOl hgd hok hTt hk9 hy hq hq2 e1 hlen hzs
      generalize hgo : goW (F.wrs s zs) zs.length 0 D = X at *
      clear hgo
      obtain ⟨zl, hzl⟩ : ∃ zl, zs.length = zl := ⟨_, rfl⟩
      have HZL := hid hzl
      have hlz' : zl ≤ 890 := by have := HL9.out; omega
      rw [hzl] at hlz HWr
      go_enter Tryz.func48, Tryz.ntmps48
      go_upto_region 6 with (first
        | (go_at_call 81; refine HM.out.mono ?_; rintro e _ ⟨rfl, hw⟩; rw [hw]; clear hw)
        | (go_at_call 59; refine HFr.out.mono ?_; rintro e w1 ⟨v1, rfl, H1⟩; obtain ⟨a1, k1, rfl, _⟩ := row_get H1.out.1)
        | (go_at_call 61; refine (HDi.out w1 H1.out.2).mono ?_; rintro e w2 ⟨v2, rfl, H2⟩))
      obtain ⟨a2, k2, rfl, _⟩ := row_get H2.out.1
      have HA2 := hid (H1.out.2.trans H2.out.2)
      have HR2 := hid (show w2.ownsRow w.heap.size 3 1 (.slice a2 zs.length k2) zs.length (I zs) from row_base H2.out.1 (fun k hk => by have := (row_low H2.out.1 hk).1; have := H1.out.2.size; omega))
      have HWr2 := hid (HWr.out w2 HA2.out a2 k2 (by have := HR2.out; rw [hzl] at this; exact this))
      rw [hzl] at HR2 ⊢
      clear hzl HWr
      have hnz : ¬ (zl : Int) = 0 := by omega
      have hnz' : ((zl : Int) == 0) = false := by simpa using hnz
      go_upto_region 9 with (go_at_call 82; refine HWr2.out.mono ?_; rintro e w3 ⟨rfl, H3⟩)
      by_cases hx : X.1 = 0
      · have HX := hid hx
        have hS2 : F.flS s D = { s with L := s.L.map F.cln } := by rw [HFs.out, if_pos hx]
        have HS2 := hid hS2
        rw [hx]
        have HC : Hid (CWay w w3 O OD p dp s hb y zs (.slice a2 zl k2) w.heap.size X.2 0) := by
          obtain ⟨O3, h1, h2, h3⟩ := H3.out
          have z2 := HA2.out.size
          have z3 := h2.size
          have q : PoolAt w3 O p dp s hb y G := (HP.out.adds HA2.out).touch h2 (fun k hk => HAp.out k hk)
          refine ⟨⟨G, by rw [List.take_zero, F.updS_nil]; exact q⟩, ?_, ⟨O3, h1, fun k c => ?_⟩, (HA2.out.mono (fun _ _ c => c.elim)).then h2 (fun _ _ c => .inr c)⟩
          · rw [HZL.out]
            exact row_keep HR2.out h2 (fun k hk c => by have := (row_low HR2.out hk).1; have := HOl.out k (.inr c); omega)
          · rcases h3 k c with c | c
            · exact .inl c
            · exact .inr ⟨by omega, c.2⟩
        clear hx hS2
        go_wp2_with fail
        go_loopw [29] (fun iv wr => ∃ i : Nat, iv = .int .i64 (i : Int) ∧ i ≤ zl ∧ Hid (CWay w wr O OD p dp s hb y zs (.slice a2 zl k2) w.heap.size X.2 i)) (fun iv _ => zl - (intOf iv).toNat)
        case atStart => exact ⟨0, rfl, Nat.zero_le _, HC.out⟩
        case round =>
          obtain ⟨i, rfl, hi, HI⟩ := hrel
          by_cases hlt : i < zl
          · have hltz : (i : Int) < (zl : Int) := by omega
            have hlt' : i < zs.length := by rw [HZL.out]; exact hlt
            obtain ⟨G1, hG1⟩ := HI.out.pool
            have hrow := HI.out.row
            obtain ⟨a3, k3, e3, hget⟩ := row_get hrow
            obtain ⟨b, o, ea, hbo, hc⟩ := hget i hlt'
            rw [HZL.out] at e3
            cases e3
            subst ea
            obtain ⟨t, htG, htn, hlk, htL, htm⟩ := upd_new hG1 (m := F.isDirty) (z := zs[i]) (by rw [← HZ.out]; exact List.getElem_mem hlt') (not_take HN.out hlt')
            have htf : t.f.fresh = false := HNf.out t.f htL
            have c4 : wr.cell? ⟨p, 4, none⟩ = some (.map (some hb)) := cellOf hG1.box 4
            have HMP := hid hG1.mp
            have HLK := hid hlk
            obtain ⟨tg, tof, tc, htb, _⟩ := (hG1.at' t htG).now
            have e1 : wr.cell? ⟨t.b, 1, none⟩ = some (.int .i64 (F.st t.f)) := cellOf htb 1
            have f1 : wr.frozen? ⟨t.b, 1, none⟩ = false := frozen_of_row wr t.b 1 _ 134 htb
            have HG1 := hid (And.intro hG1 (And.intro htG (And.intro htn htf)))
            obtain ⟨z, hz⟩ : ∃ z, z = zs[i] := ⟨_, rfl⟩
            rw [← hz] at hc HLK HG1
            have HZI := hid hz
            clear hG1 htG htn hlk htL htm htb hget hrow hz hbo htf
            go_wp2_with (first
              | (at_lookup; refine wpList_lookup_p rfl _ _ 87 rfl 3 131 Tryz.underlying87 Tryz.underlying3 zeroPF hb rfl HMP.out _ rfl ?_; rw [HLK.out])
              | go_in)
            go_roundw
            case rel =>
              obtain ⟨q1, q2⟩ := PoolAt.clean (w' := wr.setCell ⟨t.b, 1, none⟩ (.int .i64 0)) HG1.out.1 HG1.out.2.1 HG1.out.2.2.2 rfl
              have hOb : O t.b := (HG1.out.1.at' t HG1.out.2.1).now.own
              obtain ⟨O4, hd4, hd5⟩ := HI.out.disk
              have hlow : t.b < w.heap.size := HOl.out _ (.inl hOb)
              refine ⟨i + 1, by go_num, by omega, ?_, row_keep HI.out.row q2 (fun k hk e => ?_), ⟨O4, hd4.touch q2 (fun k c e => ?_), fun k c => ?_⟩, HI.out.touch.trans (q2.mono (fun k _ e => by rw [e]; exact .inl hOb))⟩
              · rw [take_next' (by rw [HZL.out]; exact hlt), ← F.updS_more F.cln_no F.cln_cln]
                have := HZI.out
                rw [HG1.out.2.2.1] at q1
                rw [this] at q1
                exact ⟨_, q1⟩
              · have h1 := (row_low HI.out.row hk).1
                rw [e] at h1
                omega
              · rcases hd5 k c with c | c
                · exact HAp.out _ hOb (by rw [← e]; exact c)
                · rw [e] at c; omega
              · have := q2.size
                rcases hd5 k c with c | c
                · exact .inl c
                · exact .inr ⟨c.1, by omega⟩
            case measure => simp [intOf]; omega
          · have hltz : ¬ (i : Int) < (zl : Int) := by omega
            obtain rfl : i = zl := by omega
            go_wp2_with fail
            go_ret
            obtain ⟨G1, hG1⟩ := HI.out.pool
            rw [← HZL.out, List.take_length, HS.out] at hG1
            obtain ⟨O4, hd4, hd5⟩ := HI.out.disk
            rw [HS2.out, HX.out]
            exact ⟨rfl, ⟨hb, y, G1, hG1, HY.out⟩, O4, hd4, HI.out.touch, hd5⟩
      · have hx' : (X.1 != 0) = true := by simpa using hx
        have hS2 : F.flS s D = s := by rw [HFs.out, if_neg hx]
        have HS2 := hid hS2
        clear hx hS2
        go_wp2_with fail
        go_ret
        obtain ⟨O3, h1, h2, h3⟩ := H3.out
        have z2 := HA2.out.size
        have q : PoolAt w3 O p dp s hb y G := (HP.out.adds HA2.out).touch h2 (fun k hk => HAp.out k hk)
        rw [HS2.out]
        refine ⟨rfl, ⟨hb, y, G, q, HY.out⟩, O3, h1, (HA2.out.mono (fun _ _ c => c.elim)).then h2 (fun _ _ c => .inr c), fun k c => ?_⟩
        rcases h3 k c with c | c
        · exact .inl c
        · exact .inr ⟨by omega, c.2⟩
  · have e1 : F.flX s D = (42, D) := by unfold F.flX; rw [if_neg hq]
    have e2 : F.flS s D = s := by unfold F.flS; rw [e1]; rfl
    rw [e1, e2]
    obtain ⟨zs, hzs⟩ : ∃ zs, zs = F.which s F.isFresh := ⟨_, rfl⟩
    rw [← hzs] at HFr hq
    have hlz : 0 < zs.length := List.length_pos_iff.2 hq
    clear h hd hk hap hOl hgd hok hTt hk9 hy hq e1 e2 hlen hzs
    obtain ⟨zl, hzl⟩ : ∃ zl, zs.length = zl := ⟨_, rfl⟩
    rw [hzl] at hlz
    have hnz : (0 : Int) < (zl : Int) := by omega
    go_enter Tryz.func48, Tryz.ntmps48
    go_wp2_with (first
      | (go_at_call 81; refine HM.out.mono ?_; rintro e _ ⟨rfl, hw⟩; rw [hw]; clear hw)
      | (go_at_call 59; refine HFr.out.mono ?_; rintro e w1 ⟨v1, rfl, H1⟩; obtain ⟨a1, k1, rfl, _⟩ := row_get H1.out.1; rw [hzl]))
    go_ret
    have hA := H1.out.2
    exact ⟨rfl, ⟨hb, y, G, HP.out.adds hA, HY.out⟩, OD, HD.out.adds hA, hA.mono (fun _ _ c => c.elim), fun k c => .inl c⟩
end Go.Proofs.YtjlennpoaefllaaGreatDoor

/- The pool's calls Open and Count; pools that are nil, or that no call made. -/
namespace Go.Proofs.YtjlennpoaefllaaGreatDoor
open Go.RowKit

namespace F
def openOk (D : dSt) (fr ct mo : Int) : Bool := decide (0 ≤ fr ∧ 1 ≤ ct ∧ ct ≤ 4096 ∧ fr + ct ≤ D.size ∧ 1 ≤ mo ∧ mo ≤ 256)
end F
set_option maxRecDepth 100000 in
set_option maxHeartbeats 1000000 in
theorem bopen_bad {w : World} {OD : Nat → Prop} {dp : Nat} {D : dSt} {k : Nat} (hd : IsDO w OD dp D) (hk : DOk D k) (hsz : D.size ≤ 4096) (fr ct mo : Int) (hf : fr ≤ 9223372036854775807) (hb : F.openOk D fr ct mo = false) : Calls Tryz.prog 11 #[Ptr dp, .int .i64 fr, .int .i64 ct, .int .i64 mo] w (Tells (.tuple #[.pointer none, .int .i64 2]) w) := by
  have H := hid (dsize_any hd hk)
  have h0 : ¬ D.size = 0 := by have := hk.size; omega
  have h0' : (D.size == 0) = false := by simpa using h0
  have hs := hk.size
  have hb' : ¬ (0 ≤ fr ∧ 1 ≤ ct ∧ ct ≤ 4096 ∧ fr + ct ≤ D.size ∧ 1 ≤ mo ∧ mo ≤ 256) := by simpa [F.openOk] using hb
  unfold Ptr at *
  clear hd hk hb
  by_cases h1 : fr < 0
  · clear hb'
    go_enter Tryz.func11, Tryz.ntmps11
    go_wp2_with (go_at_call 34; refine H.out.mono ?_; rintro e _ ⟨rfl, hw⟩; rw [hw]; clear hw)
    go_ret2
    exact ⟨rfl, rfl⟩
  have hw : wrap64 (D.size - fr) = D.size - fr := by simp [wrap64]; omega
  by_cases h2 : ct < 1
  · clear hb'
    go_enter Tryz.func11, Tryz.ntmps11
    go_wp2_with (go_at_call 34; refine H.out.mono ?_; rintro e _ ⟨rfl, hw⟩; rw [hw]; clear hw)
    go_ret2
    exact ⟨rfl, rfl⟩
  by_cases h3 : 4096 < ct
  · clear hb'
    go_enter Tryz.func11, Tryz.ntmps11
    go_wp2_with (go_at_call 34; refine H.out.mono ?_; rintro e _ ⟨rfl, hw⟩; rw [hw]; clear hw)
    go_ret2
    exact ⟨rfl, rfl⟩
  by_cases h4 : D.size - fr < ct
  · clear hb'
    go_enter Tryz.func11, Tryz.ntmps11
    go_wp2_with (go_at_call 34; refine H.out.mono ?_; rintro e _ ⟨rfl, hw⟩; rw [hw]; clear hw)
    go_ret2
    exact ⟨rfl, rfl⟩
  by_cases h5 : mo < 1
  · clear hb'
    go_enter Tryz.func11, Tryz.ntmps11
    go_wp2_with (go_at_call 34; refine H.out.mono ?_; rintro e _ ⟨rfl, hw⟩; rw [hw]; clear hw)
    go_ret2
    exact ⟨rfl, rfl⟩
  have h6 : 256 < mo := by omega
  clear hb'
  go_enter Tryz.func11, Tryz.ntmps11
  go_wp2_with (go_at_call 34; refine H.out.mono ?_; rintro e _ ⟨rfl, hw⟩; rw [hw]; clear hw)
  go_ret2
  exact ⟨rfl, rfl⟩
/-- What Open makes. -/
def POpn (w : World) (dp : Nat) (s : F.Po) (e : Ending) (w' : World) : Prop := ∃ p, e = .returned (.tuple #[Ptr p, .int .i64 0]) ∧ Hid (IsPool w' (fun k => w.heap.size ≤ k ∧ k < w'.heap.size) p dp s 0 ∧ Adds w w')
set_option maxRecDepth 100000 in
set_option maxHeartbeats 1000000 in
theorem bopen_ok {w : World} {OD : Nat → Prop} {dp : Nat} {D : dSt} {k : Nat} (hd : IsDO w OD dp D) (hk : DOk D k) (hsz : D.size ≤ 4096) (fr ct mo : Int) (hb : F.openOk D fr ct mo = true) : Calls Tryz.prog 11 #[Ptr dp, .int .i64 fr, .int .i64 ct, .int .i64 mo] w (POpn w dp ⟨fr, ct, mo, []⟩) := by
  have H := hid (dsize_any hd hk)
  have h0 : ¬ D.size = 0 := by have := hk.size; omega
  have h0' : (D.size == 0) = false := by simpa using h0
  have hs := hk.size
  have hb' : 0 ≤ fr ∧ 1 ≤ ct ∧ ct ≤ 4096 ∧ fr + ct ≤ D.size ∧ 1 ≤ mo ∧ mo ≤ 256 := by simpa [F.openOk] using hb
  have h1 : ¬ fr < 0 := by omega
  have h2 : ¬ ct < 1 := by omega
  have h3 : ¬ 4096 < ct := by omega
  have h4 : ¬ D.size - fr < ct := by omega
  have h5 : ¬ mo < 1 := by omega
  have h6 : ¬ 256 < mo := by omega
  have hw : wrap64 (D.size - fr) = D.size - fr := by simp [wrap64]; omega
  have hmm := @run_makeMap Tryz.prog
  unfold Ptr at *
  clear hd hk hb hb'
  go_enter Tryz.func11, Tryz.ntmps11
  go_wp2_with (go_at_call 34; refine H.out.mono ?_; rintro e _ ⟨rfl, hw⟩; rw [hw]; clear hw)
  go_ret2
  refine ⟨_, rfl, ⟨w.heap.size, 0, [], ⟨heap_alloc2_new w _ _, ⟨#[], 0, heap_alloc2_old w _ _, MapP.nil⟩, rfl, fun t ht => (by cases ht), List.nodup_nil, List.Pairwise.nil, fun t ht => (by cases ht), Int.le_refl _, ⟨by omega, by simp⟩, ⟨Nat.le_refl _, by simp; omega⟩⟩, Int.le_refl _⟩, ((Touch.refl _ w).alloc _).alloc _⟩
end Go.Proofs.YtjlennpoaefllaaGreatDoor
