/- Texts put together: FPage, FRead, FGet, FPut, FPut2, FWhich, FAcc. -/
import Derived.Test.YtokbiekdompaoaaDoorQ27
import Derived.Deep.RegionWith
/- Whether bytes are a page; a page of the disk in a frame. -/
namespace Go.Proofs.YtokbiekdompaoaaDoor
open Go.RowKit

namespace F
/-- Whether bytes are the page no. -/
def isE (bs : List UInt8) (no : Int) : Nat := match M.readP bs with
  | none => 22
  | some p => if (p.no : Int) ≠ no then 23 else 0
/-- What they are, with 0 in the last four. -/
def uns (bs : List UInt8) (no : Int) : List UInt8 := if isE bs no = 0 then nw bs else []
set_option maxRecDepth 100000 in
theorem nw_len {bs : List UInt8} {p : M.Pg} (h : M.readP bs = some p) : (nw bs).length = 256 := by
  unfold nw
  rw [h]
  exact M.len_pbytes (M.read_ok h).1.room
set_option maxRecDepth 100000 in
theorem nw_read {bs : List UInt8} {p : M.Pg} (h : M.readP bs = some p) : M.readP (nw bs) = some p := by
  unfold nw
  rw [h]
  exact M.read_pbytes (M.read_ok h).1
end F
set_option maxRecDepth 100000 in
theorem open_sealed {bs : List UInt8} {p : M.Pg} (hR : M.readP bs = some p) (no : Int) : M.openE (sealed (bs.take 252)) no = F.isE bs no := by
  obtain ⟨h1, h2, h3⟩ := M.read_ok hR
  have l2 : (bs.take 252).length = 252 := by rw [List.length_take]; omega
  have l3 : (sealed (bs.take 252)).length = 256 := by rw [len_sealed, l2]
  have t3 : (sealed (bs.take 252)).take 252 = bs.take 252 := by
    unfold sealed
    rw [List.take_append_of_le_length (by omega), List.take_of_length_le (by omega)]
  have r3 : M.readP (sealed (bs.take 252)) = some p := M.read_of h1 l3 (by rw [t3, h3])
  unfold M.openE F.isE
  rw [if_neg (by omega), if_neg (by rw [t3]; simp), r3, hR]
set_option maxRecDepth 100000 in
theorem openP_sealed {bs : List UInt8} {p : M.Pg} (hR : M.readP bs = some p) (no : Int) : M.openP (sealed (bs.take 252)) no = F.uns bs no := by
  obtain ⟨h1, h2, h3⟩ := M.read_ok hR
  have l2 : (bs.take 252).length = 252 := by rw [List.length_take]; omega
  have l3 : (sealed (bs.take 252)).length = 256 := by rw [len_sealed, l2]
  have t3 : (sealed (bs.take 252)).take 252 = bs.take 252 := by
    unfold sealed
    rw [List.take_append_of_le_length (by omega), List.take_of_length_le (by omega)]
  have r3 : M.readP (sealed (bs.take 252)) = some p := M.read_of h1 l3 (by rw [t3, h3])
  unfold M.openP F.uns F.isE F.nw
  rw [if_neg (by omega), if_neg (by rw [t3]; simp), r3, hR]
  by_cases c : (p.no : Int) = no <;> simp [c]
set_option maxRecDepth 100000 in
set_option maxHeartbeats 1000000 in
theorem unsealed_any (a : Option Addr) (bs : List UInt8) (n cap : Nat) (no : Int) (w : World) (hn : bs.length = n) (hc : n ≤ cap) (hA : At w a bs) (hT : Tab w) : Calls Tryd.prog 49 #[.slice a n cap, .int .i64 no] w (PTold w (F.uns bs no) (F.isE bs no)) := by
  cases hR : M.readP bs with
  | none =>
    have HS := hid (gseal_none hR a n cap w hn hc hA)
    have hE : F.isE bs no = 22 := by unfold F.isE; rw [hR]
    have hU : F.uns bs no = [] := by unfold F.uns; rw [hE]; rfl
    rw [hE, hU]
    clear hA hn hE hU hR
    go_enter Tryd.func49, Tryd.ntmps49
    go_wp2_with (go_at_call 59; refine HS.out.mono ?_; rintro e w1 ⟨rfl, hA1⟩)
    go_ret2
    exact PTold.nil hA1 rfl rfl
  | some p =>
    have hl := (M.read_ok hR).2.1
    obtain rfl : n = 256 := by omega
    have HS := hid (gseal_some hR a cap w hl hc hA hT)
    have HO := hid (fun (w1 : World) (g c : Nat) (hA1 : Adds w w1) (hc : 256 ≤ c) (hB : At w1 (some ⟨g, 0, none⟩) (sealed (bs.take 252))) (hl : (sealed (bs.take 252)).length = 256) => gopen_any (some ⟨g, 0, none⟩) (sealed (bs.take 252)) 256 c no w1 hl hc hB (hT.adds hA1))
    rw [open_sealed hR no, openP_sealed hR no] at HO
    clear hA hn hR hT
    generalize F.isE bs no = z at *
    generalize F.uns bs no = os at *
    generalize sealed (bs.take 252) = cs at *
    go_enter Tryd.func49, Tryd.ntmps49
    go_wp2_with (first
      | (go_at_call 59; refine HS.out.mono ?_; rintro e w1 ⟨g1, c1, rfl, H1⟩)
      | (go_at_call 60; refine (HO.out w1 g1 c1 H1.out.2.2.2.2 H1.out.2.2.1 (At.own H1.out.2.2.2.1) H1.out.2.1).mono ?_; rintro e w2 ⟨a2, c2, rfl, H2⟩))
    go_ret2
    have hz := H1.out.2.2.2.2.size
    exact ⟨a2, c2, rfl, H2.out.1, H2.out.2.1, ⟨H2.out.2.2.1.1, fun b o e => by have := H2.out.2.2.1.2 b o e; omega⟩, H1.out.2.2.2.2.trans H2.out.2.2.2⟩
/-- What read tells. -/
def PRdF (w : World) (z : Nat) (bs : List UInt8) (e : Ending) (w' : World) : Prop := ∃ v, e = .returned (.tuple #[v, .int .i64 (z : Int)]) ∧ Hid ((z ≠ 0 ∧ v = .pointer none ∧ Adds w w') ∨ (z = 0 ∧ ∃ b, v = .pointer (some ⟨b, 0, none⟩) ∧ FrAt w' (fun k => w.heap.size ≤ k ∧ k < w'.heap.size) b bs 0 0 (.slice none 0 0) ∧ Adds w w'))
end Go.Proofs.YtokbiekdompaoaaDoor

/- A page of the disk in a frame. -/
namespace Go.Proofs.YtokbiekdompaoaaDoor
open Go.RowKit

set_option maxRecDepth 100000 in
theorem openP_len {bs : List UInt8} {no : Int} (h : M.openE bs no = 0) : (M.openP bs no).length = 256 := by
  unfold M.openE at h
  unfold M.openP
  split at h
  · cases h
  · rename_i h1
    rw [if_neg h1]
    split at h
    · cases h
    · rename_i h2
      rw [if_neg h2]
      split at h
      · cases h
      · rename_i p hp
        split at h
        · cases h
        · rename_i h3
          rw [if_neg h3]
          exact M.len_pbytes (M.read_ok hp).1.room
set_option maxRecDepth 100000 in
theorem openP_nil {bs : List UInt8} {no : Int} (h : M.openE bs no ≠ 0) : M.openP bs no = [] := by
  unfold M.openE at h
  unfold M.openP
  split at h
  · rename_i h1; rw [if_pos h1]
  · rename_i h1
    rw [if_neg h1]
    split at h
    · rename_i h2; rw [if_pos h2]
    · rename_i h2
      rw [if_neg h2]
      split at h
      · rfl
      · split at h
        · rename_i h3; rw [if_pos h3]
        · exact absurd rfl h
set_option maxRecDepth 100000 in
set_option maxHeartbeats 2000000 in
theorem bread_any {w : World} {O OD : Nat → Prop} {p dp : Nat} {s : F.Po} {hb : Nat} {y : Int} {G : List Tk} {D : dSt} {n : Nat} (h : PoolAt w O p dp s hb y G) (hd : IsDO w OD dp D) (hk : DOk D n) (hn : n ≤ 900) (hok : POk s D) (hT : Tab w) (no : Int) (hno : 0 ≤ no ∧ no < s.ct) :
    Calls Tryd.prog 53 #[Ptr p, .int .i64 no] w (PRdF w (F.rdE s D no) (F.rdB s D no)) := by
  have HR := hid (hasRoom_any h no)
  have hi : 0 ≤ s.fr + no ∧ s.fr + no < D.size := by have := hok.fr0; have := hok.fit; omega
  have hwr : wrap64 (s.fr + no) = s.fr + no := by have := hok.fr0; have := hok.fit; have := hok.size; simp [wrap64]; omega
  have hwi : IntKind.i64.wrap (s.fr + no) = s.fr + no := by rw [IntKind.wrap_i64]; have := hok.fr0; have := hok.fit; have := hok.size; omega
  have HB := hid (fun w1 (hA : Adds w w1) => show w1.heap[p]? = some (PBox dp s hb y) from (h.adds hA).box)
  have HE : Hid (F.rdE s D no = if F.room s no then (if D.left = 0 then 10 else M.openE (hasOf D.H D.W (s.fr + no)) no) else 33) := rfl
  have HBs : Hid (F.rdB s D no = M.openP (hasOf D.H D.W (s.fr + no)) no) := rfl
  have HOf := hid (fun w1 (hA : Adds w w1) (hon : D.left = 0) => dread_off (hd.adds hA) hk hon (s.fr + no) hi)
  have HOn := hid (fun w1 (hA : Adds w w1) (hon : D.left ≠ 0) => dread_any (hd.adds hA) hk hn hon (s.fr + no) hi)
  have HTb := hid hT
  unfold Ptr at *
  clear h hd hk hok hT hi hno
  cases hq : F.room s no with
  | false =>
    rw [hq] at HR
    have hE : F.rdE s D no = 33 := by rw [HE.out, hq]; rfl
    rw [hE]
    clear hq HE hE
    go_enter Tryd.func53, Tryd.ntmps53
    go_wp2_with (go_at_call 50; refine HR.out.mono ?_; rintro e w1 ⟨rfl, hA1⟩; have HA1 := hid hA1; clear hA1)
    go_ret2
    exact ⟨_, rfl, .inl ⟨by decide, rfl, HA1.out⟩⟩
  | true =>
    rw [hq] at HR
    by_cases hon : D.left = 0
    · have hE : F.rdE s D no = 10 := by rw [HE.out, hq, hon]; rfl
      rw [hE]
      have HOf' := hid (fun w1 hA => HOf.out w1 hA hon)
      clear hq HE hE hon HOf HOn
      go_enter Tryd.func53, Tryd.ntmps53
      go_upto_region 3 with (go_at_call 50; refine HR.out.mono ?_; rintro e w1 ⟨rfl, hA1⟩; have HA1 := hid hA1; clear hA1)
      have c0 : w1.cell? ⟨p, 0, none⟩ = some (.pointer (some ⟨dp, 0, none⟩)) := cellOf (HB.out w1 HA1.out) 0
      have c1 : w1.cell? ⟨p, 1, none⟩ = some (.int .i64 s.fr) := cellOf (HB.out w1 HA1.out) 1
      go_quiet (first | (go_at_call 64; refine Calls.quiet_of_same (HOf'.out _ (HA1.out.trans (adds_drewN _ _)))))
      go_wp2
      go_ret2
      exact ⟨_, rfl, .inl ⟨by decide, rfl, HA1.out.trans (adds_drewN _ _)⟩⟩
    · have hE : F.rdE s D no = M.openE (hasOf D.H D.W (s.fr + no)) no := by rw [HE.out, hq, if_neg hon]; rfl
      rw [hE, HBs.out]
      have HOn' := hid (fun w1 hA (z : Int) (hz : z = s.fr + no) => show Calls Tryd.prog 64 #[.pointer (some ⟨dp, 0, none⟩), .int .i64 z] w1 (PSec w1 (hasOf D.H D.W (s.fr + no))) by rw [hz]; exact HOn.out w1 hA hon)
      have HWR := hid (And.intro hwr hwi)
      generalize hasOf D.H D.W (s.fr + no) = bs at *
      have HOp := hid (fun (w2 : World) (g c : Nat) (hA : Adds w w2) (hc : 256 ≤ c) (hl : bs.length = 256) (hB : At w2 (some ⟨g, 0, none⟩) bs) => gopen_any (some ⟨g, 0, none⟩) bs 256 c no w2 hl hc hB (HTb.out.adds hA))
      have HL := hid (And.intro (@openP_len bs no) (@openP_nil bs no))
      clear hq HE hE hon HOf HOn HBs
      generalize M.openE bs no = z at *
      generalize M.openP bs no = cs at *
      go_enter Tryd.func53, Tryd.ntmps53
      go_upto_region 3 with (go_at_call 50; refine HR.out.mono ?_; rintro e w1 ⟨rfl, hA1⟩; have HA1 := hid hA1; clear hA1)
      have c0 : w1.cell? ⟨p, 0, none⟩ = some (.pointer (some ⟨dp, 0, none⟩)) := cellOf (HB.out w1 HA1.out) 0
      have c1 : w1.cell? ⟨p, 1, none⟩ = some (.int .i64 s.fr) := cellOf (HB.out w1 HA1.out) 1
      go_cut [6, 7] (fun v6 v7 w2 => ∃ g c, v6 = .slice (some ⟨g, 0, none⟩) 256 c ∧ v7 = .int .i64 0 ∧ Hid (At w2 (some ⟨g, 0, none⟩) bs ∧ bs.length = 256 ∧ 256 ≤ c ∧ Adds w1 w2))
      case first =>
        go_region_with (go_at_call 64; refine (HOn'.out _ (HA1.out.trans (Touch.refl _ w1).drew) _ (by first | rfl | exact HWR.out.1 | exact HWR.out.2)).mono ?_; rintro e w2 ⟨g2, c2, rfl, H2⟩)
        all_goals
          go_wp2
          go_meet
          case rel => exact ⟨g2, c2, rfl, rfl, H2.out.1, H2.out.2.1, H2.out.2.2.1, ((Touch.refl _ w1).drew).trans H2.out.2.2.2.2⟩
      case rest =>
        obtain ⟨g2, c2, rfl, rfl, H2⟩ := hcut
        have HA2 := hid (HA1.out.trans H2.out.2.2.2)
        by_cases hz : z = 0
        · have hl : cs.length = 256 := HL.out.1 hz
          have HCL := hid hl
          subst hz
          clear hl
          go_wp2_with (go_at_call 60; refine (HOp.out _ g2 c2 HA2.out H2.out.2.2.1 H2.out.2.1 H2.out.1).mono ?_; rintro e w3 ⟨a3, c3, rfl, H3⟩; rw [HCL.out])
          go_ret2
          obtain ⟨b, o, ea⟩ := H3.out.1.ad (by rw [HCL.out]; decide)
          subst ea
          have hA3 := HA2.out.trans H3.out.2.2.2
          have hsz := hA3.size
          have hge := H3.out.2.2.1.2 b o rfl
          have hlt : b < w3.heap.size := by
            obtain ⟨b', o', e', hc⟩ := H3.out.1 0 (cs[0]'(by rw [HCL.out]; decide)) (by simp)
            cases e'
            exact World.block_lt_of_cell? _ _ hc
          have hz2 := HA2.out.size
          refine ⟨_, rfl, .inr ⟨rfl, _, rfl, ⟨b, o, c3, heap_alloc_new w3 _, ⟨hsz, by simp⟩, ⟨by omega, by simp; omega⟩, by have := H3.out.2.1; rw [HCL.out] at this; exact this, HCL.out, H3.out.1.adds ((Touch.refl _ w3).alloc _)⟩, hA3.alloc _⟩⟩
        · have hz' : ((z : Int) != 0) = true := by simp; omega
          have HZ := hid hz
          clear hz
          go_wp2_with (go_at_call 60; refine (HOp.out _ g2 c2 HA2.out H2.out.2.2.1 H2.out.2.1 H2.out.1).mono ?_; rintro e w3 ⟨a3, c3, rfl, H3⟩)
          go_ret2
          exact ⟨_, rfl, .inl ⟨HZ.out, rfl, HA2.out.trans H3.out.2.2.2⟩⟩
end Go.Proofs.YtokbiekdompaoaaDoor

/- The pool's call Get. -/
namespace Go.Proofs.YtokbiekdompaoaaDoor
open Go.RowKit

set_option maxRecDepth 100000 in
theorem gs_perm {G : List Tk} (hn : (G.map (fun t => t.f.no)).Nodup) {t : Tk} (ht : t ∈ G) : G.Perm (gs G t.f.no ++ [t]) := by
  induction G with
  | nil => cases ht
  | cons x G ih =>
    obtain ⟨h1, h2⟩ := List.nodup_cons.1 hn
    unfold gs
    rw [List.filter_cons]
    rcases List.mem_cons.1 ht with rfl | ht
    · have : G.filter (fun u => decide (u.f.no ≠ t.f.no)) = G := by
        rw [List.filter_eq_self]
        intro u hu
        have : u.f.no ≠ t.f.no := fun e => h1 (List.mem_map.2 ⟨u, hu, e⟩)
        simp [this]
      rw [this]
      simp only [ne_eq, not_true_eq_false, decide_false, Bool.false_eq_true, if_false]
      exact List.perm_append_comm (l₁ := [t])
    · have hne : x.f.no ≠ t.f.no := fun e => h1 (List.mem_map.2 ⟨t, ht, e.symm⟩)
      simp only [ne_eq, hne, not_false_eq_true, decide_true, if_true]
      exact List.Perm.cons x (ih h2 ht)
set_option maxRecDepth 100000 in
theorem perm_flat {G H : List Tk} (h : G.Perm H) : (G.flatMap Tk.bl).Perm (H.flatMap Tk.bl) := by
  induction h with
  | nil => exact List.Perm.refl _
  | cons x _ ih => rw [List.flatMap_cons, List.flatMap_cons]; exact List.Perm.append_left _ ih
  | swap x y l => rw [List.flatMap_cons, List.flatMap_cons, List.flatMap_cons, List.flatMap_cons, ← List.append_assoc, ← List.append_assoc]; exact List.Perm.append_right _ List.perm_append_comm
  | trans _ _ h1 h2 => exact h1.trans h2
set_option maxRecDepth 100000 in
theorem gs_nodup {w : World} {O : Nat → Prop} {p dp : Nat} {s : F.Po} {hb : Nat} {y : Int} {G : List Tk} (h : PoolAt w O p dp s hb y G) {t : Tk} (ht : t ∈ G) : ((gs G t.f.no).flatMap Tk.bl ++ t.bl).Nodup := by
  have := (perm_flat (gs_perm h.once ht)).nodup_iff.1 h.nd
  rw [List.flatMap_append, List.flatMap_cons, List.flatMap_nil, List.append_nil] at this
  exact this
set_option maxRecDepth 100000 in
theorem PoolAt.bl_lt {w : World} {O : Nat → Prop} {p dp : Nat} {s : F.Po} {hb : Nat} {y : Int} {G : List Tk} (h : PoolAt w O p dp s hb y G) {t : Tk} (ht : t ∈ G) {k : Nat} (hk : k ∈ t.bl) : k < w.heap.size ∧ O k := by
  have q := h.at' t ht
  obtain rfl := List.mem_singleton.1 hk
  exact ⟨q.now.lt, by obtain ⟨_, _, _, _, h2, _⟩ := q.now; exact h2⟩
/-- What Get tells, and leaves. -/
def PGet (w : World) (O : Nat → Prop) (p dp : Nat) (s : F.Po) (n : Nat) (z : Nat) (bs : List UInt8) (e : Ending) (w' : World) : Prop := ∃ v, e = .returned (.tuple #[v, .int .i64 (z : Int)]) ∧ Hid (w'.ownsRow w.heap.size 5 1 v bs.length (S bs) ∧ ∃ O', IsPool w' O' p dp s n ∧ Touch O w w' ∧ (∀ k, O' k → O k ∨ (w.heap.size ≤ k ∧ k < w'.heap.size)) ∧ ∀ k, v.ownBlock = some k → ¬ O' k)
set_option maxRecDepth 100000 in
/-- Behind hold: the page is told as a copy. -/
theorem get_fin {w w1 w2 w3 : World} {O O1 : Nat → Prop} {p dp : Nat} {s s' : F.Po} {hb : Nat} {y : Int} {n : Nat} {t : Tk} {v : Value} (hO1 : ∀ k, O k → k < w.heap.size) (hA : Adds w w1) (hO : ∀ k, O1 k → O k ∨ (w.heap.size ≤ k ∧ k < w1.heap.size)) (hp : ∃ G, PoolAt w2 O1 p dp s' hb (y + 1) G) (hT : Touch (fun k => k = p ∨ k = hb ∨ k = t.b) w1 w2)
    (hin : O1 p ∧ O1 hb ∧ O1 t.b) (hy : y + 1 ≤ (n : Int)) (hv : w3.ownsRow w2.heap.size 5 1 v t.f.now.length (S t.f.now)) (hA3 : Adds w2 w3) (hs : s' = s) : PGet w O p dp s n 0 t.f.now (.returned (.tuple #[v, .int .i64 0])) w3 := by
  have z1 := hA.size
  have z2 := hT.size
  have z3 := hA3.size
  obtain ⟨G, hG⟩ := hp
  subst hs
  refine ⟨v, rfl, row_base hv (fun j hj => by have := (row_low hv hj).1; omega), O1, ⟨hb, y + 1, G, hG.adds hA3, hy⟩, ?_, fun k hk => ?_, fun k hk c => ?_⟩
  · refine (hA.mono (fun _ _ c => c.elim)).then ((hT.mono (U := fun k => O1 k) (fun k _ e => ?_)).trans (hA3.mono (fun _ _ c => c.elim))) (fun k hk c => ?_)
    · rcases e with e | e | e
      · rw [e]; exact hin.1
      · rw [e]; exact hin.2.1
      · rw [e]; exact hin.2.2
    · rcases hO k c with c | c
      · exact c
      · omega
  · rcases hO k hk with c | c
    · exact .inl c
    · exact .inr ⟨c.1, by omega⟩
  · have := (row_low hv hk).1
    rcases hO k c with c | c
    · have := hO1 k c
      omega
    · omega
set_option maxRecDepth 100000 in
theorem need_at {s : F.Po} {no : Int} {f : F.Fr} (h : F.at? s.L no = some f) : F.need s no = false ∧ F.room s no = true := by
  have h1 : F.need s no = false := by unfold F.need; rw [h]; rfl
  exact ⟨h1, by unfold F.room; rw [h1]; rfl⟩
set_option maxRecDepth 100000 in
/-- What is owned lies in memory. -/
theorem FrAt.own {w : World} {O : Nat → Prop} {b : Nat} {bs : List UInt8} {s age : Int} {wp : Value} (h : FrAt w O b bs s age wp) : O b := by
  obtain ⟨_, _, _, _, h2, _⟩ := h
  exact h2
set_option maxRecDepth 100000 in
set_option maxHeartbeats 4000000 in
theorem get_bad {w : World} {O : Nat → Prop} {p dp : Nat} {s : F.Po} {hb : Nat} {y : Int} {G : List Tk} {n : Nat} (h : PoolAt w O p dp s hb y G) (hy : y ≤ (n : Int)) (no : Int) (hno : F.inPool s no = false) : Calls Tryd.prog 38 #[Ptr p, .int .i64 no] w (PGet w O p dp s n 2 []) := by
  have HA := hid (basked_any h no)
  rw [hno] at HA
  have HP := hid (show IsPool w O p dp s n from ⟨hb, y, G, h, hy⟩)
  clear h hno
  go_enter Tryd.func38, Tryd.ntmps38
  go_wp2_with (go_at_call 48; refine HA.out.mono ?_; rintro e _ ⟨rfl, hw⟩; rw [hw]; clear hw)
  go_ret2
  exact ⟨_, rfl, World.ownsRow_nil _ _ _ _, O, HP.out, Touch.refl _ _, fun k hk => .inl hk, fun k hk => by cases hk⟩
set_option maxRecDepth 100000 in
set_option maxHeartbeats 4000000 in
theorem get_held {w : World} {O : Nat → Prop} {p dp : Nat} {s : F.Po} {hb : Nat} {y : Int} {G : List Tk} {n : Nat} (h : PoolAt w O p dp s hb y G) (hy : y + 1 ≤ (n : Int)) (hn : n ≤ 1000000) (hO : ∀ k, O k → k < w.heap.size) (t : Tk) (ht : t ∈ G) (hno : F.inPool s t.f.no = true) : Calls Tryd.prog 38 #[Ptr p, .int .i64 t.f.no] w (PGet w O p dp (F.held s t.f.no t.f) n 0 t.f.now) := by
  have HA := hid (basked_any h t.f.no)
  rw [hno] at HA
  have hf : F.at? s.L t.f.no = some t.f ∧ lk (G.map Tk.pr) t.f.no = .pointer (some ⟨t.b, 0, none⟩) := by
    rcases h.find t.f.no with ⟨u, hu, e, h1, h2⟩ | ⟨h1, _⟩
    · rw [mem_nodup h.once hu ht e] at h1 h2; exact ⟨h1, h2⟩
    · exact absurd rfl (h1 t ht)
  have hroom := (need_at hf.1).2
  have HH := hid (bhold_any h (by omega) (h.at' t ht) (gs_nodup h ht) hroom)
  have c4 : w.cell? ⟨p, 4, none⟩ = some (.map (some hb)) := cellOf h.box 4
  have HMP := hid h.mp
  have HLK := hid hf.2
  have HP := hid h
  have HT := hid (h.at' t ht)
  have HOO := hid hO
  have HY := hid (And.intro hy hn)
  unfold Ptr at *
  clear h hno hf hroom hO hy
  go_enter Tryd.func38, Tryd.ntmps38
  go_upto_region 11 with (first
    | (go_at_call 48; refine HA.out.mono ?_; rintro e _ ⟨rfl, hw⟩; rw [hw]; clear hw)
    | (at_lookup; refine wpList_lookup_p rfl _ _ 42 rfl 3 76 Tryd.underlying42 Tryd.underlying3 zeroPF hb rfl HMP.out _ rfl ?_; rw [HLK.out])
    | (go_at_call 51; refine HH.out.mono ?_; rintro e w2 ⟨rfl, H2⟩)
    | go_in)
  obtain ⟨G', hG', hm', hT2⟩ := H2.out
  obtain ⟨g, o, c, hbx, _, _, hc, hl, hAt⟩ := (hG'.at' _ hm').now
  have d0 : w2.cell? ⟨t.b, 0, none⟩ = some (.slice (some ⟨g, o, none⟩) 256 c) := cellOf hbx 0
  have HCl := hid (show Calls Tryd.prog 54 #[.slice (some ⟨g, o, none⟩) 256 c] w2 (dPClone w2 t.f.now) by
    have q := slicesClone_any g o c t.f.now w2 (by rw [show t.f.now.length = 256 from hl]; decide) (by rw [show t.f.now.length = 256 from hl]; decide) (rangeOf hAt)
    rw [show t.f.now.length = 256 from hl] at q
    exact q)
  have HG' := hid hG'
  have HT2 := hid hT2
  clear hbx hAt hm' hG' hT2 hl
  go_wp2_with (go_at_call 54; refine HCl.out.mono ?_; rintro e w3 ⟨v3, rfl, h31, h32, h33⟩)
  go_ret2
  exact get_fin (t := t) HOO.out (Touch.refl _ w) (fun k hk => .inl hk) ⟨_, HG'.out⟩ HT2.out ⟨HP.out.op, HP.out.oh, HT.out.now.own⟩ HY.out.1 h31 h33 rfl
set_option maxRecDepth 100000 in
set_option maxHeartbeats 4000000 in
theorem get_new {w : World} {O OD : Nat → Prop} {p dp : Nat} {s : F.Po} {hb : Nat} {y : Int} {G : List Tk} {D : dSt} {n k : Nat} (h : PoolAt w O p dp s hb y G) (hy : y + 1 ≤ (n : Int)) (hn : n ≤ 1000000) (hO : ∀ k, O k → k < w.heap.size) (hd : IsDO w OD dp D) (hk : DOk D k) (hk9 : k ≤ 900) (hok : POk s D) (hTb : Tab w) (no : Int) (hno : F.inPool s no = true) (hat : F.at? s.L no = none) :
    Calls Tryd.prog 38 #[Ptr p, .int .i64 no] w (PGet w O p dp (if F.rdE s D no = 0 then F.held s no ⟨no, F.rdB s D no, [], false, false⟩ else s) n (F.rdE s D no) (if F.rdE s D no = 0 then F.rdB s D no else [])) := by
  have HA := hid (basked_any h no)
  rw [hno] at HA
  have hlk : (∀ t ∈ G, t.f.no ≠ no) ∧ lk (G.map Tk.pr) no = .pointer none := by
    rcases h.find no with ⟨u, hu, e, h1, h2⟩ | ⟨h1, _, h2⟩
    · rw [hat] at h1; cases h1
    · exact ⟨h1, h2⟩
  have hin : 0 ≤ no ∧ no < s.ct := by simpa [F.inPool] using hno
  have HRd := hid (bread_any h hd hk hk9 hok hTb no hin)
  have HRm := hid (show F.rdE s D no = 0 → F.room s no = true by
    intro e
    unfold F.rdE at e
    split at e
    · assumption
    · cases e)
  have c4 : w.cell? ⟨p, 4, none⟩ = some (.map (some hb)) := cellOf h.box 4
  have HMP := hid h.mp
  have HLK := hid hlk.2
  have HNo := hid hlk.1
  have HP := hid h
  have HOO := hid hO
  have HY := hid (And.intro hy hn)
  unfold Ptr at *
  clear h hno hlk hO hy hd hk hok hTb hat hin
  generalize F.rdE s D no = z at *
  generalize F.rdB s D no = bs at *
  by_cases hz : z = 0
  · rw [if_pos hz, if_pos hz]
    have hroom := hid (HRm.out hz)
    have HZ := hid hz
    go_enter Tryd.func38, Tryd.ntmps38
    go_upto_region 8 with (first
      | (go_at_call 48; refine HA.out.mono ?_; rintro e _ ⟨rfl, hw⟩; rw [hw]; clear hw)
      | (at_lookup; refine wpList_lookup_p rfl _ _ 42 rfl 3 76 Tryd.underlying42 Tryd.underlying3 zeroPF hb rfl HMP.out _ rfl ?_; rw [HLK.out])
      | (go_at_call 53; refine HRd.out.mono ?_; rintro e w1 ⟨v1, rfl, H1⟩)
      | go_in)
    subst hz
    obtain ⟨b, hv1, hfr, hA1⟩ : ∃ b, v1 = .pointer (some ⟨b, 0, none⟩) ∧ FrAt w1 (fun k => w.heap.size ≤ k ∧ k < w1.heap.size) b bs 0 0 (.slice none 0 0) ∧ Adds w w1 := by
      rcases H1.out with ⟨c, _⟩ | ⟨_, c⟩
      · exact absurd rfl c
      · exact c
    subst hv1
    obtain ⟨t, ht⟩ : ∃ t : Tk, t = ⟨⟨no, bs, [], false, false⟩, b, 0, 0, 0, 0⟩ := ⟨_, rfl⟩
    have hbl : t.bl = [b] := by rw [ht]; rfl
    have hno : t.f.no = no := by rw [ht]
    have hP1 : PoolAt w1 (fun k => O k ∨ (w.heap.size ≤ k ∧ k < w1.heap.size)) p dp s hb y G := (HP.out.adds hA1).mono (fun _ c => .inl c)
    have hT1 : TkAt w1 (fun k => O k ∨ (w.heap.size ≤ k ∧ k < w1.heap.size)) t := by
      rw [ht]
      exact ⟨hfr.mono (fun _ c => .inr c), fun e => by cases e⟩
    have hap : ((gs G t.f.no).flatMap Tk.bl ++ t.bl).Nodup := by
      rw [hbl, List.nodup_append]
      refine ⟨HP.out.nd.sublist (sub_flat (gs_sub G _)), by simp, fun x hx z hz e => ?_⟩
      obtain rfl := List.mem_singleton.1 hz
      obtain ⟨u, hu, hxu⟩ := List.mem_flatMap.1 hx
      have := (HP.out.bl_lt (gs_mem.1 hu).1 hxu).1
      have := hfr.own.1
      omega
    have HH := hid (show Calls Tryd.prog 51 #[.pointer (some ⟨p, 0, none⟩), .int .i64 no, .pointer (some ⟨b, 0, none⟩)] w1 (PHold w1 (fun k => O k ∨ (w.heap.size ≤ k ∧ k < w1.heap.size)) p dp s hb y t) by
      have q := bhold_any hP1 (by have := HY.out; omega) hT1 hap (by rw [hno]; exact hroom.out)
      rw [hno, show t.b = b by rw [ht]] at q
      exact q)
    have HT1 := hid hT1
    have HA1 := hid hA1
    have HTq := hid ht
    have HN := hid hno
    clear ht hbl hno hP1 hT1 hap hfr hA1
    go_upto_region 11 with (go_at_call 51; refine HH.out.mono ?_; rintro e w2 ⟨rfl, H2⟩)
    obtain ⟨G', hG', hm', hT2⟩ := H2.out
    obtain ⟨g, o, c, hbx, _, _, hc, hl, hAt⟩ := (hG'.at' _ hm').now
    have d0 : w2.cell? ⟨b, 0, none⟩ = some (.slice (some ⟨g, o, none⟩) 256 c) := by have q := cellOf hbx 0; rw [show ({ t with age := y + 1 } : Tk).b = b by rw [HTq.out]] at q; exact q
    have HCl := hid (show Calls Tryd.prog 54 #[.slice (some ⟨g, o, none⟩) 256 c] w2 (dPClone w2 t.f.now) by
      have q := slicesClone_any g o c t.f.now w2 (by rw [show t.f.now.length = 256 from hl]; decide) (by rw [show t.f.now.length = 256 from hl]; decide) (rangeOf hAt)
      rw [show t.f.now.length = 256 from hl] at q
      exact q)
    have HG' := hid hG'
    have HT2 := hid hT2
    clear hbx hAt hm' hG' hT2 hl
    go_wp2_with (go_at_call 54; refine HCl.out.mono ?_; rintro e w3 ⟨v3, rfl, h31, h32, h33⟩)
    go_ret2
    have q := get_fin (t := t) (s' := F.held s t.f.no t.f) (s := F.held s no ⟨no, bs, [], false, false⟩) HOO.out HA1.out (fun k hk => hk) ⟨_, HG'.out⟩ HT2.out ⟨.inl HP.out.op, .inl HP.out.oh, HT1.out.now.own⟩ HY.out.1 h31 h33 (by rw [HTq.out])
    rw [show t.f.now = bs by rw [HTq.out]] at q
    exact q
  · rw [if_neg hz, if_neg hz]
    have hz' : ((z : Int) != 0) = true := by simp; omega
    have HZ := hid hz
    clear hz
    go_enter Tryd.func38, Tryd.ntmps38
    go_wp2_with (first
      | (go_at_call 48; refine HA.out.mono ?_; rintro e _ ⟨rfl, hw⟩; rw [hw]; clear hw)
      | (at_lookup; refine wpList_lookup_p rfl _ _ 42 rfl 3 76 Tryd.underlying42 Tryd.underlying3 zeroPF hb rfl HMP.out _ rfl ?_; rw [HLK.out])
      | (go_at_call 53; refine HRd.out.mono ?_; rintro e w1 ⟨v1, rfl, H1⟩)
      | go_in)
    go_ret2
    obtain ⟨_, hA1⟩ : v1 = .pointer none ∧ Adds w w1 := by
      rcases H1.out with ⟨_, c⟩ | ⟨c, _⟩
      · exact c
      · exact absurd c HZ.out
    exact ⟨_, rfl, World.ownsRow_nil _ _ _ _, O, ⟨hb, y, G, HP.out.adds hA1, by have := HY.out; omega⟩, hA1.mono (fun _ _ c => c.elim), fun k hk => .inl hk, fun k hk => by cases hk⟩
set_option maxRecDepth 100000 in
/-- Get, by the pool's and the disk's states. -/
theorem bget_any {w : World} {O OD : Nat → Prop} {p dp : Nat} {s : F.Po} {D : dSt} {n k : Nat} (h : IsPool w O p dp s n) (hn : n + 1 ≤ 1000000) (hO : ∀ k, O k → k < w.heap.size) (hd : IsDO w OD dp D) (hk : DOk D k) (hk9 : k ≤ 900) (hok : POk s D) (hTb : Tab w) (no : Int) :
    Calls Tryd.prog 38 #[Ptr p, .int .i64 no] w (PGet w O p dp (F.getS s D no) (n + 1) (F.getE s D no) (F.getB s D no)) := by
  obtain ⟨hb, y, G, h, hy⟩ := h
  cases hno : F.inPool s no with
  | false =>
    have e1 : F.getE s D no = 2 := by unfold F.getE; rw [hno]; rfl
    have e2 : F.getS s D no = s := by unfold F.getS; rw [e1]; rfl
    have e3 : F.getB s D no = [] := by unfold F.getB; rw [e1]; rfl
    rw [e1, e2, e3]
    exact get_bad h (by omega) no hno
  | true =>
    rcases h.find no with ⟨t, ht, rfl, h1, _⟩ | ⟨_, h1, _⟩
    · have e1 : F.getE s D t.f.no = 0 := by unfold F.getE; rw [hno, h1]; rfl
      have e4 : F.getF s D t.f.no = t.f := by unfold F.getF; rw [h1]
      have e2 : F.getS s D t.f.no = F.held s t.f.no t.f := by unfold F.getS; rw [e1, e4]; rfl
      have e3 : F.getB s D t.f.no = t.f.now := by unfold F.getB; rw [e1, e4]; rfl
      rw [e1, e2, e3]
      exact get_held h (by omega) hn hO t ht hno
    · have e1 : F.getE s D no = F.rdE s D no := by unfold F.getE; rw [hno, h1]; rfl
      have e4 : F.getF s D no = ⟨no, F.rdB s D no, [], false, false⟩ := by unfold F.getF; rw [h1]
      have e2 : F.getS s D no = if F.rdE s D no = 0 then F.held s no ⟨no, F.rdB s D no, [], false, false⟩ else s := by unfold F.getS; rw [e1, e4]
      have e3 : F.getB s D no = if F.rdE s D no = 0 then F.rdB s D no else [] := by unfold F.getB; rw [e1, e4]
      rw [e1, e2, e3]
      exact get_new h (by omega) hn hO hd hk hk9 hok hTb no hno h1
end Go.Proofs.YtokbiekdompaoaaDoor

/- The pool's call Put. -/
namespace Go.Proofs.YtokbiekdompaoaaDoor
open Go.RowKit

/-- What a call leaves of a pool. -/
def PPut (w : World) (O : Nat → Prop) (p dp : Nat) (s : F.Po) (n : Nat) (z : Int) (e : Ending) (w' : World) : Prop := e = .returned (.int .i64 z) ∧ Hid (∃ O', IsPool w' O' p dp s n ∧ Touch O w w' ∧ ∀ k, O' k → O k ∨ (w.heap.size ≤ k ∧ k < w'.heap.size))
/-- What a page was as a dirty frame. -/
structure WasAt (w : World) (O : Nat → Prop) (s : F.Po) (G : List Tk) (no : Int) (v : Value) (wg wo wc : Nat) : Prop where
  is : v = if F.wasD s no then .slice (some ⟨wg, wo, none⟩) 256 wc else .slice none 0 0
  at' : F.wasD s no = true → WsAt w O wg wo wc (F.wasB s no)
  call : ∀ w', Adds w w' → Calls Tryd.prog 52 #[lk (G.map Tk.pr) no] w' (Tells v w')
set_option maxRecDepth 100000 in
theorem PoolAt.wasAt {w : World} {O : Nat → Prop} {p dp : Nat} {s : F.Po} {hb : Nat} {y : Int} {G : List Tk} (h : PoolAt w O p dp s hb y G) (no : Int) : ∃ v wg wo wc, WasAt w O s G no v wg wo wc := by
  rcases h.find no with ⟨t, ht, rfl, h1, h2⟩ | ⟨_, h1, h2⟩
  · have hD : F.wasD s t.f.no = t.f.dirty := by unfold F.wasD; rw [h1]
    obtain ⟨v, g, o, c, q1, q2⟩ := asDirty_any (h.at' t ht)
    refine ⟨v, g, o, c, by rw [hD]; exact q1.is, fun e => ?_, fun w' hA => by rw [h2]; exact q2 w' hA⟩
    rw [hD] at e
    have hB : F.wasB s t.f.no = if t.f.fresh then t.f.was else t.f.now := by unfold F.wasB; rw [h1]; simp [e]
    rw [hB]
    exact q1.at' e
  · have hD : F.wasD s no = false := by unfold F.wasD; rw [h1]
    refine ⟨.slice none 0 0, 0, 0, 0, by rw [hD]; rfl, (by rw [hD]; intro c; cases c), fun w' _ => ?_⟩
    rw [h2]; exact asDirty_nil w'
set_option maxRecDepth 100000 in
/-- A new frame is held. -/
theorem put_hold {w w2 w3 : World} {O : Nat → Prop} {p dp : Nat} {s : F.Po} {hb : Nat} {y : Int} {G : List Tk} {n : Nat} (h : PoolAt w O p dp s hb y G) (hy : y + 1 ≤ (n : Int)) (hn : n ≤ 1000000) {no : Int} {v : Value} {wg wo wc : Nat} (hw : WasAt w O s G no v wg wo wc) (hr : F.room s no = true) (hA : Adds w w2) (hA3 : Adds w2 w3)
    {g o k : Nat} {bs : List UInt8} (hl : bs.length = 256) (hat : At w3 (some ⟨g, o, none⟩) bs) (hgl : w.heap.size ≤ g) (hk : 256 ≤ k) :
    Calls Tryd.prog 51 #[Ptr p, .int .i64 no, .pointer (some ⟨w3.heap.size, 0, none⟩)] (w3.alloc (.cells #[.slice (some ⟨g, o, none⟩) 256 k, .int .i64 2, .int .i64 0, v] 79)) (fun e w' => e = .returned (.tuple #[]) ∧ Hid (∃ O', IsPool w' O' p dp (F.held s no ⟨no, bs, F.wasB s no, true, F.wasD s no⟩) n ∧ Touch O w w' ∧ ∀ k, O' k → O k ∨ (w.heap.size ≤ k ∧ k < w'.heap.size))) := by
  have hz2 := hA.size
  have hz3 := hA3.size
  have hgl3 : g < w3.heap.size := by
    obtain ⟨b', o', e', hc⟩ := hat 0 (bs[0]'(by omega)) (by simp)
    cases e'
    exact World.block_lt_of_cell? _ _ hc
  obtain ⟨w4, hw4⟩ : ∃ w4, w4 = w3.alloc (.cells #[.slice (some ⟨g, o, none⟩) 256 k, .int .i64 2, .int .i64 0, v] 79) := ⟨_, rfl⟩
  have hb4 : w4.heap[w3.heap.size]? = some (FBox g o k 2 0 v) := by rw [hw4]; exact heap_alloc_new w3 _
  have hz4 : w4.heap.size = w3.heap.size + 1 := by rw [hw4]; simp
  have hA4 : Adds w w4 := by rw [hw4]; exact (hA.trans hA3).alloc _
  have hA34 : Adds w3 w4 := by rw [hw4]; exact (Touch.refl _ w3).alloc _
  rw [← hw4]
  clear hw4
  obtain ⟨O1, hO1⟩ : ∃ O1 : Nat → Prop, O1 = fun k => O k ∨ (w.heap.size ≤ k ∧ k < w4.heap.size) := ⟨_, rfl⟩
  have hOO : ∀ k, O k → O1 k := fun k c => by rw [hO1]; exact .inl c
  obtain ⟨t, ht⟩ : ∃ t : Tk, t = ⟨⟨no, bs, F.wasB s no, true, F.wasD s no⟩, w3.heap.size, 0, wg, wo, wc⟩ := ⟨_, rfl⟩
  have hno : t.f.no = no := by rw [ht]
  have hbo : t.both = F.wasD s no := by rw [ht]; exact Bool.true_and _
  have hwp : t.wp = v := by rw [hw.is]; unfold Tk.wp; rw [hbo, ht]
  have hP4 : PoolAt w4 O1 p dp s hb y G := (h.adds hA4).mono hOO
  have hT4 : TkAt w4 O1 t := by
    refine ⟨?_, fun e => ?_⟩
    · rw [hwp, ht]
      refine ⟨g, o, k, hb4, ?_, ?_, hk, hl, hat.adds hA34⟩
      · rw [hO1]; exact .inr ⟨by show w.heap.size ≤ w3.heap.size; omega, by show w3.heap.size < _; omega⟩
      · rw [hO1]; exact .inr ⟨by omega, by omega⟩
    · rw [hbo] at e
      have q := hw.at' e
      rw [ht]
      exact (q.touch hA4 (fun _ _ => id)).mono hOO
  have hap : ((gs G t.f.no).flatMap Tk.bl ++ t.bl).Nodup := by
    rw [hno, List.nodup_append]
    have hold : ∀ x ∈ (gs G no).flatMap Tk.bl, x < w.heap.size := fun x hx => by
      obtain ⟨u, hu, hxu⟩ := List.mem_flatMap.1 hx
      exact (h.bl_lt (gs_mem.1 hu).1 hxu).1
    refine ⟨h.nd.sublist (sub_flat (gs_sub G _)), by simp [Tk.bl], fun x hx z hz e => ?_⟩
    have hz' : z = t.b := by simpa [Tk.bl] using hz
    have := hold x hx
    rw [e, hz', ht] at this
    exact absurd this (by show ¬ w3.heap.size < _; omega)
  have q := bhold_any hP4 (by omega) hT4 hap (by rw [hno]; exact hr)
  rw [hno, show t.b = w3.heap.size by rw [ht]] at q
  refine q.mono ?_
  rintro e w' ⟨rfl, H⟩
  obtain ⟨G', hG', _, hT⟩ := H.out
  have hzT := hT.size
  refine ⟨rfl, O1, ⟨hb, y + 1, G', ?_, hy⟩, ?_, fun k c => ?_⟩
  · have e2 : F.held s t.f.no t.f = F.held s no ⟨no, bs, F.wasB s no, true, F.wasD s no⟩ := by rw [ht]
    rw [← e2]; exact hG'
  · refine (hA4.mono (fun _ _ c => c.elim)).then hT (fun k hk c => ?_)
    rcases c with c | c | c
    · rw [c]; exact h.op
    · rw [c]; exact h.oh
    · rw [ht] at c
      exact absurd hk (by rw [c]; show ¬ w3.heap.size < _; omega)
  · rw [hO1] at c
    rcases c with c | c
    · exact .inl c
    · exact .inr ⟨c.1, by omega⟩
end Go.Proofs.YtokbiekdompaoaaDoor

/- The pool's call Put: the walk. -/
namespace Go.Proofs.YtokbiekdompaoaaDoor
open Go.RowKit

set_option maxRecDepth 100000 in
set_option maxHeartbeats 4000000 in
theorem put_no {w : World} {O : Nat → Prop} {p dp : Nat} {s : F.Po} {hb : Nat} {y : Int} {G : List Tk} {n : Nat} (h : PoolAt w O p dp s hb y G) (hy : y ≤ (n : Int)) (no : Int) (a : Option Addr) (bs : List UInt8) (m cap : Nat) (hm : bs.length = m) (hc : m ≤ cap) (hA : At w a bs) (hTb : Tab w) (hE : F.putE s no bs ≠ 0) :
    Calls Tryd.prog 35 #[Ptr p, .int .i64 no, .slice a m cap] w (PPut w O p dp s n (F.putE s no bs : Int)) := by
  have HA := hid (basked_any h no)
  have HI := hid (unsealed_any a bs m cap no w hm hc hA hTb)
  have HR := hid (fun w1 (hA : Adds w w1) => hasRoom_any (h.adds hA) no)
  have HP := hid (fun w1 (hA : Adds w w1) => show IsPool w1 O p dp s n from ⟨hb, y, G, h.adds hA, hy⟩)
  have HE : Hid (F.putE s no bs = if F.inPool s no then (if F.isE bs no = 0 then (if F.room s no then 0 else 33) else F.isE bs no) else 2) := by
    show _ = _
    unfold F.putE F.isE
    cases F.inPool s no <;> cases M.readP bs with
    | none => rfl
    | some q => by_cases c : (q.no : Int) ≠ no <;> simp [c]
  clear h hA hTb hm
  cases hq : F.inPool s no with
  | false =>
    rw [hq] at HA
    have hz : F.putE s no bs = 2 := by rw [HE.out, hq]; rfl
    rw [hz]
    clear hE hq hz HE
    go_enter Tryd.func35, Tryd.ntmps35
    go_wp2_with (go_at_call 48; refine HA.out.mono ?_; rintro e _ ⟨rfl, hw⟩; rw [hw]; clear hw)
    go_ret
    exact ⟨rfl, O, HP.out _ (Touch.refl _ _), Touch.refl _ _, fun k c => .inl c⟩
  | true =>
    rw [hq] at HA
    by_cases hi : F.isE bs no = 0
    · rw [hi] at HI
      cases hr : F.room s no with
      | true =>
        exact absurd (by rw [HE.out, hq, if_pos hi, hr]; rfl) hE
      | false =>
        rw [hr] at HR
        have hz : F.putE s no bs = 33 := by rw [HE.out, hq, if_pos hi, hr]; rfl
        rw [hz]
        clear hE hq hz HE hi hr
        go_enter Tryd.func35, Tryd.ntmps35
        go_wp2_with (first
          | (go_at_call 48; refine HA.out.mono ?_; rintro e _ ⟨rfl, hw⟩; rw [hw]; clear hw)
          | (go_at_call 49; refine HI.out.mono ?_; rintro e w1 ⟨a1, k1, rfl, H1⟩; have HA1 := hid H1.out.2.2.2)
          | (go_at_call 50; refine (HR.out w1 HA1.out).mono ?_; rintro e w2 ⟨rfl, hA2⟩; have HA2 := hid hA2; clear hA2))
        go_ret
        have hA := HA1.out.trans HA2.out
        exact ⟨rfl, O, HP.out _ hA, hA.mono (fun _ _ c => c.elim), fun k c => .inl c⟩
    · have hz : F.putE s no bs = F.isE bs no := by rw [HE.out, hq, if_neg hi]; rfl
      rw [hz]
      generalize F.isE bs no = z at *
      have hz' : ((z : Int) != 0) = true := by simp; omega
      clear hE hq hz HE hi
      go_enter Tryd.func35, Tryd.ntmps35
      go_wp2_with (first
        | (go_at_call 48; refine HA.out.mono ?_; rintro e _ ⟨rfl, hw⟩; rw [hw]; clear hw)
        | (go_at_call 49; refine HI.out.mono ?_; rintro e w1 ⟨a1, k1, rfl, H1⟩; have HA1 := hid H1.out.2.2.2))
      go_ret
      exact ⟨rfl, O, HP.out _ HA1.out, HA1.out.mono (fun _ _ c => c.elim), fun k c => .inl c⟩
set_option maxRecDepth 100000 in
set_option maxHeartbeats 4000000 in
theorem put_yes {w : World} {O : Nat → Prop} {p dp : Nat} {s : F.Po} {hb : Nat} {y : Int} {G : List Tk} {n : Nat} (h : PoolAt w O p dp s hb y G) (hy : y + 1 ≤ (n : Int)) (hn : n ≤ 1000000) (no : Int) (a : Option Addr) (bs : List UInt8) (m cap : Nat) (hm : bs.length = m) (hc : m ≤ cap) (hA : At w a bs) (hTb : Tab w) (hE : F.putE s no bs = 0) :
    Calls Tryd.prog 35 #[Ptr p, .int .i64 no, .slice a m cap] w (PPut w O p dp (F.putS s no bs) n 0) := by
  have hin : F.inPool s no = true := by
    unfold F.putE at hE
    split at hE
    · assumption
    · cases hE
  obtain ⟨q, hR, hqn, hroom⟩ : ∃ q, M.readP bs = some q ∧ (q.no : Int) = no ∧ F.room s no = true := by
    unfold F.putE at hE
    rw [if_pos hin] at hE
    split at hE
    · cases hE
    · rename_i q hq
      split at hE
      · cases hE
      · rename_i c
        split at hE
        · exact ⟨q, hq, Classical.byContradiction c, by assumption⟩
        · cases hE
  have hz : F.isE bs no = 0 := by unfold F.isE; rw [hR]; simp [hqn]
  have hU : F.uns bs no = F.nw bs := by unfold F.uns; rw [if_pos hz]
  have hS : F.putS s no bs = F.held s no ⟨no, F.nw bs, F.wasB s no, true, F.wasD s no⟩ := by unfold F.putS; rw [if_pos hE]
  rw [hS]
  have HA := hid (basked_any h no)
  rw [hin] at HA
  have HI := hid (unsealed_any a bs m cap no w hm hc hA hTb)
  rw [hz, hU] at HI
  have HR := hid (fun w1 (hA : Adds w w1) => hasRoom_any (h.adds hA) no)
  rw [hroom] at HR
  obtain ⟨v, wg, wo, wc, hw⟩ := h.wasAt no
  obtain ⟨va, vn, vc, rfl⟩ : ∃ va vn vc, v = .slice va vn vc := by rw [hw.is]; split <;> exact ⟨_, _, _, rfl⟩
  have HB := hid (fun w1 (hA : Adds w w1) => show w1.heap[p]? = some (PBox dp s hb y) from (h.adds hA).box)
  have HMs := hid (fun w1 (hA : Adds w w1) => (h.adds hA).mp)
  have HD := hid hw.call
  have hl := F.nw_len hR
  have HH := hid (fun (w2 : World) (hA2 : Adds w w2) (g o k : Nat) (hat : At w2 (some ⟨g, o, none⟩) (F.nw bs)) (hgl : w.heap.size ≤ g) (hk : 256 ≤ k) => put_hold h hy hn hw hroom hA2 (Touch.refl _ w2) hl hat hgl hk)
  have HBL := hid hl
  unfold Ptr at *
  clear h hA hTb hm hE hin hR hqn hroom hl hz hS hw hU
  obtain ⟨lv, hlk⟩ : ∃ lv, lk (G.map Tk.pr) no = lv := ⟨_, rfl⟩
  rw [hlk] at HD
  have HLK := hid hlk
  clear hlk
  generalize F.nw bs = cs at *
  go_enter Tryd.func35, Tryd.ntmps35
  go_upto_region 9 with (first
    | (go_at_call 48; refine HA.out.mono ?_; rintro e _ ⟨rfl, hw⟩; rw [hw]; clear hw)
    | (go_at_call 49; refine HI.out.mono ?_; rintro e w1 ⟨a1, k1, rfl, H1⟩; rw [HBL.out])
    | (go_at_call 50; refine (HR.out w1 H1.out.2.2.2).mono ?_; rintro e w2 ⟨rfl, hA2⟩; have HA12 := hid hA2; clear hA2))
  obtain ⟨g1, o1, e1⟩ := H1.out.1.ad (by rw [HBL.out]; decide)
  subst e1
  have HA2 := hid (H1.out.2.2.2.trans HA12.out)
  have HAt := hid (And.intro (H1.out.1.adds HA12.out) (And.intro (H1.out.2.2.1.2 g1 o1 rfl) (show 256 ≤ k1 by have := H1.out.2.1; rw [HBL.out] at this; exact this)))
  have c4 : w2.cell? ⟨p, 4, none⟩ = some (.map (some hb)) := cellOf (HB.out w2 HA2.out) 4
  have HMP := hid (HMs.out w2 HA2.out)
  go_wp2_with (first
    | (at_lookup; refine wpList_lookup_p rfl _ _ 42 rfl 3 76 Tryd.underlying42 Tryd.underlying3 zeroPF hb rfl HMP.out _ rfl ?_; rw [HLK.out])
    | (go_at_call 52; refine (HD.out _ HA2.out).mono ?_; rintro e _ ⟨rfl, hw⟩; rw [hw]; clear hw)
    | (go_at_call 51; refine (HH.out w2 HA2.out g1 o1 k1 HAt.out.1 HAt.out.2.1 HAt.out.2.2).mono ?_; rintro e w5 ⟨rfl, H5⟩)
    | go_in)
  go_ret
  exact ⟨rfl, H5.out⟩
set_option maxRecDepth 100000 in
/-- Put, by the pool's state. -/
theorem bput_any {w : World} {O : Nat → Prop} {p dp : Nat} {s : F.Po} {n : Nat} (h : IsPool w O p dp s n) (hn : n + 1 ≤ 1000000) (no : Int) (a : Option Addr) (bs : List UInt8) (m cap : Nat) (hm : bs.length = m) (hc : m ≤ cap) (hA : At w a bs) (hTb : Tab w) :
    Calls Tryd.prog 35 #[Ptr p, .int .i64 no, .slice a m cap] w (PPut w O p dp (F.putS s no bs) (n + 1) (F.putE s no bs : Int)) := by
  obtain ⟨hb, y, G, h, hy⟩ := h
  by_cases hE : F.putE s no bs = 0
  · have q := put_yes h (n := n + 1) (by omega) hn no a bs m cap hm hc hA hTb hE
    rw [hE]
    exact q
  · have e : F.putS s no bs = s := by unfold F.putS; rw [if_neg hE]
    rw [e]
    exact put_no h (n := n + 1) (by omega) no a bs m cap hm hc hA hTb hE
end Go.Proofs.YtokbiekdompaoaaDoor

/- The numbers of the pages of some frames, rising. -/
namespace Go.Proofs.YtokbiekdompaoaaDoor
open Go.RowKit

set_option maxRecDepth 100000 in
theorem info3 : ∃ i, Tryd.prog.info? 3 = some i ∧ i.zero = some (.int .i64 0) ∧ i.size = 1 ∧ i.bytes = 8 := by
  have h : (Tryd.prog.info? 3).map (fun i => (i.zero, i.size, i.bytes)) = some (some (.int .i64 0), 1, 8) := by kernel_rfl
  cases hq : Tryd.prog.info? 3 with
  | none => rw [hq] at h; cases h
  | some i =>
    rw [hq] at h
    simp only [Option.map_some, Option.some.injEq, Prod.mk.injEq] at h
    exact ⟨i, rfl, h.1, h.2.1, h.2.2⟩
set_option maxRecDepth 100000 in
/-- A number is put behind numbers of one's own. -/
theorem append_i1 {w : World} {ops : Array Oper} {rest : List Oper} {o : Oper} {act : Act} {Q : Exit → Act → World → Prop} (hgd : o.guard = none) (s x : Operand)
    (ho : o.op = .call { callee := .builtin .append, args := #[s, x], argTypes := #[38, 38] }) (B : Nat) (v : Value) (n : Nat) (xs : List Value) (hs : act.eval s = v) (hown : w.ownsRow B 3 1 v n xs)
    (g : Nat) (z : Int) (hx : act.eval x = .slice (some ⟨g, 0, none⟩) 1 1) (hc : w.cell? ⟨g, 0, none⟩ = some (.int .i64 z)) (hlen : n ≤ 10000000) (hB : B ≤ w.heap.size)
    (h : ∀ v' w', w'.ownsRow B 3 1 v' (n + 1) (xs ++ [.int .i64 z]) → w.grownBy w' v.ownBlock → wpList Tryd.prog ops Q rest (act.put o.dst v') w') : wpList Tryd.prog ops Q (o :: rest) act w := by
  obtain ⟨i0, hi, hz0, hz1, hz2⟩ := info3
  refine wpList_append_own_at _ hgd s x 38 ho B 3 i0 (.int .i64 0) 1 8 Tryd.underlying38 hi hz0 hz1 hz2 rfl (by decide) v n xs hs hown ⟨g, 0, none⟩ 1 1 [.int .i64 z] hx rfl ?_ (fun y hy => by rw [List.mem_singleton.1 hy]; rfl) (by unfold maxLen; omega) (by omega) hB (fun v' w' h1 h2 _ _ => h v' w' h1 h2)
  intro j y hj
  match j, hj with
  | 0, hj =>
    obtain rfl : Value.int .i64 z = y := by simpa using hj
    rw [Addr.add_mid]; exact hc
/-- What which tells. -/
def PNums (w : World) (zs : List Int) (e : Ending) (w' : World) : Prop := ∃ v, e = .returned v ∧ Hid (w'.ownsRow w.heap.size 3 1 v zs.length (I zs) ∧ Adds w w')
set_option maxRecDepth 100000 in
theorem row_keep {w w' : World} {B : Nat} {e : TypeId} {v : Value} {n : Nat} {xs : List Value} (h : w.ownsRow B e 1 v n xs) {T : Nat → Prop} (hT : Touch T w w') (hn : ∀ k, v.ownBlock = some k → ¬ T k) : w'.ownsRow B e 1 v n xs := by
  rcases h.2 with hq | ⟨g, cap, cur, rfl, hb, hg, rest⟩
  · exact ⟨h.1, .inl hq⟩
  · exact ⟨h.1, .inr ⟨g, cap, cur, rfl, hb, by rw [hT.block g (Array.getElem?_eq_some_iff.1 hg).1 (hn g rfl)]; exact hg, rest⟩⟩
/-- What is collected on the way. -/
structure Coll (w wr : World) (hb : Nat) (G : List Tk) (m : F.Fr → Bool) (lv : Value) (D T : List Tk) (zs : List Int) : Prop where
  perm : G.Perm (D ++ T)
  rg : Rg wr hb w.heap.size (G.map Tk.pr) (T.map Tk.pr)
  adds : Adds w wr
  row : wr.ownsRow (w.heap.size + 1) 3 1 lv zs.length (I zs)
  says : zs.Perm ((D.filter (fun t => m t.f)).map (fun t => t.f.no))
set_option maxRecDepth 100000 in
theorem Coll.len {w wr : World} {hb : Nat} {G : List Tk} {m : F.Fr → Bool} {lv : Value} {D T : List Tk} {zs : List Int} (h : Coll w wr hb G m lv D T zs) : zs.length ≤ G.length := by
  have h1 := h.says.length_eq
  have h2 := h.perm.length_eq
  have h3 := List.length_filter_le (fun t : Tk => m t.f) D
  rw [List.length_map] at h1
  rw [List.length_append] at h2
  omega
set_option maxRecDepth 100000 in
theorem Coll.done {w wr : World} {hb : Nat} {G : List Tk} {m : F.Fr → Bool} {lv : Value} {D : List Tk} {zs : List Int} (h : Coll w wr hb G m lv D [] zs) {s : F.Po} (hL : s.L = G.map (·.f)) : rise zs = F.which s m := by
  unfold F.which
  refine rise_of_perm (h.says.trans ?_)
  have hp : D.Perm G := by have := h.perm; rw [List.append_nil] at this; exact this.symm
  rw [hL, List.filter_map, List.map_map]
  exact ((hp.filter _).map _)
set_option maxRecDepth 100000 in
theorem Coll.skip {w wr w1 : World} {hb : Nat} {G : List Tk} {m : F.Fr → Bool} {lv : Value} {D T T' : List Tk} {zs : List Int} (h : Coll w wr hb G m lv D T zs) {t : Tk} (hp : T.Perm (t :: T')) (hR : Rg w1 hb w.heap.size (G.map Tk.pr) (T'.map Tk.pr)) (hT : Touch (fun k => k = w.heap.size) wr w1) (hm : m t.f = false) : Coll w w1 hb G m lv (t :: D) T' zs := by
  refine ⟨perm_move h.perm hp, hR, h.adds.then hT (fun i hi e => by omega), row_keep h.row hT (fun k hk e => ?_), ?_⟩
  · have := (row_low h.row hk).1
    omega
  · rw [List.filter_cons, hm]
    exact h.says
set_option maxRecDepth 100000 in
theorem Coll.take {w wr w1 w2 w3 : World} {hb : Nat} {G : List Tk} {m : F.Fr → Bool} {lv lv' : Value} {D T T' : List Tk} {zs : List Int} (h : Coll w wr hb G m lv D T zs) {t : Tk} (hp : T.Perm (t :: T')) (hR : Rg w1 hb w.heap.size (G.map Tk.pr) (T'.map Tk.pr)) (hT : Touch (fun k => k = w.heap.size) wr w1) (hm : m t.f = true)
    (hA : Adds w1 w2) (hrow : w3.ownsRow (w.heap.size + 1) 3 1 lv' (zs.length + 1) (I zs ++ [.int .i64 t.f.no])) (hg : w2.grownBy w3 lv.ownBlock) (hlt : hb < w.heap.size) : Coll w w3 hb G m lv' (t :: D) T' (zs ++ [t.f.no]) := by
  have h1 : Adds w w1 := h.adds.then hT (fun i hi e => by omega)
  have hlow : ∀ k, lv.ownBlock = some k → w.heap.size + 1 ≤ k := fun k hk => (row_low h.row hk).1
  have hT3 : Touch (fun k => lv.ownBlock = some k) w2 w3 := ⟨hg.os, hg.tape, hg.output, hg.size, fun k hk hn => hg.block k hk (fun e => hn e.symm)⟩
  refine ⟨perm_move h.perm hp, (hR.touch hA id id).touch hT3 (fun c => by have := hlow _ c; omega) (fun c => by have := hlow _ c; omega), (h1.trans hA).then hT3 (fun i hi c => by have := hlow _ c; omega), ?_, ?_⟩
  · have : I (zs ++ [t.f.no]) = I zs ++ [.int .i64 t.f.no] := by simp [I]
    rw [this, List.length_append]
    exact hrow
  · rw [List.filter_cons, hm, if_pos rfl, List.map_cons]
    exact (List.perm_append_comm (l₂ := [t.f.no])).trans (List.Perm.cons _ h.says)
set_option maxRecDepth 100000 in
set_option maxHeartbeats 4000000 in
theorem which_fresh {w : World} {O : Nat → Prop} {p dp : Nat} {s : F.Po} {hb : Nat} {y : Int} {G : List Tk} (h : PoolAt w O p dp s hb y G) (hlen : s.L.length ≤ 10000) : Calls Tryd.prog 44 #[Ptr p, .func (.func 45) #[] #[]] w (PNums w (F.which s F.isFresh)) := by
  have HM := hid (bmade_yes w p dp (cellOf h.box 0))
  have c4 : w.cell? ⟨p, 4, none⟩ = some (.map (some hb)) := cellOf h.box 4
  have HP := hid h
  have HMP := hid h.mp
  have HLen := hid (show G.length ≤ 10000 by rw [← h.len]; exact hlen)
  have HLt := hid h.mp.lt
  unfold Ptr at *
  clear h hlen
  go_enter Tryd.func44, Tryd.ntmps44
  go_wp2_with (first | (go_at_call 37; refine HM.out.mono ?_; rintro e _ ⟨rfl, hw⟩; rw [hw]; clear hw) | (at_range; refine wpList_range_p rfl _ 42 rfl 3 76 Tryd.underlying42 hb rfl HMP.out ?_; intro w0 hR0 hA0 hs0) | go_in)
  have HR0 := hid hR0
  have HA0 := hid hA0
  have HS0 := hid hs0
  clear hR0 hA0 hs0
  go_frame
  go_loopw [5] (fun lv wr => Hid (∃ D T zs, Coll w wr hb G F.isFresh lv D T zs)) (fun _ wr => wr.rangeLeft hb w.heap.size)
  case atStart => exact ⟨[], G, [], List.Perm.refl _, HR0.out, HA0.out, World.ownsRow_nil _ _ _ _, List.Perm.refl _⟩
  case round =>
    obtain ⟨D, T, zs, hC⟩ := hrel.out
    have HC := hid hC
    have HR := hid hC.rg
    clear hC hrel
    go_wp2_with (first | (at_next; refine wpList_next_t rfl _ rfl hb w.heap.size rfl HR.out ?_ ?_) | go_in)
    · intro hT0
      subst hT0
      have HSrt := hid (sort_any (row_base HC.out.row (fun _ _ => Nat.zero_le _)) (by have := HC.out.len; have := HLen.out; omega))
      go_wp2_with (go_at_call 57; refine HSrt.out.mono ?_; rintro e w2 ⟨rfl, hr2, hT2⟩)
      go_ret
      have e1 := HC.out.done HP.out.L
      rw [← e1]
      refine ⟨_, rfl, ?_, ?_⟩
      · rw [length_rise]
        exact row_base hr2 (fun k hk => by have := (row_low HC.out.row hk).1; omega)
      · exact HC.out.adds.then hT2 (fun i hi c => by have := (row_low HC.out.row c).1; omega)
    · intro t T' w1 hp hR1 hT1 hen
      have HQ := hid (And.intro hp (And.intro hR1 hT1))
      have HA1 := hid (show Adds w w1 from HC.out.adds.then hT1 (fun i hi e => by omega))
      have htG : t ∈ G := (perm_move HC.out.perm hp).mem_iff.2 (by simp)
      have HTk := hid ((HP.out.adds HA1.out).at' t htG)
      have HLn := hid (show T.length = T'.length + 1 by simpa using hp.length_eq)
      clear hp hR1 hT1
      cases hm : F.isFresh t.f with
      | false =>
        have HF : Hid (Calls Tryd.prog 45 #[.pointer (some ⟨t.b, 0, none⟩)] w1 (Tells (.bool false) w1)) := by
          rw [← hm]
          exact (by obtain ⟨g, o, c, hbx, _⟩ := HTk.out.now; exact isFresh_any w1 t.b (F.st t.f) _ (st_fresh t.f) (cellOf hbx 1))
        have HMf := hid hm
        clear hm
        go_wp2_with (first | (go_at_call 45; refine HF.out.mono ?_; rintro e _ ⟨rfl, hw⟩; rw [hw]; clear hw) | go_in)
        go_roundw
        case rel => exact ⟨_, _, _, HC.out.skip HQ.out.1 HQ.out.2.1 HQ.out.2.2 HMf.out⟩
        case measure => rw [HQ.out.2.1.left, HR.out.left, List.length_map, List.length_map, HLn.out]; omega
      | true =>
        have HF : Hid (Calls Tryd.prog 45 #[.pointer (some ⟨t.b, 0, none⟩)] w1 (Tells (.bool true) w1)) := by
          rw [← hm]
          exact (by obtain ⟨g, o, c, hbx, _⟩ := HTk.out.now; exact isFresh_any w1 t.b (F.st t.f) _ (st_fresh t.f) (cellOf hbx 1))
        have HMf := hid hm
        have HRow := hid (row_keep (HC.out.row) HQ.out.2.2 (fun k hk e => by have := (row_low HC.out.row hk).1; omega))
        have HB := hid (show w.heap.size + 1 ≤ w1.heap.size by have := HQ.out.2.1.lt; omega)
        clear hm
        go_wp2_with (first
          | (go_at_call 45; refine HF.out.mono ?_; rintro e _ ⟨rfl, hw⟩; rw [hw]; clear hw)
          | (at_builtin; refine append_i1 rfl _ _ rfl (w.heap.size + 1) _ _ _ rfl (row_keep HRow.out ((Touch.refl (fun _ => False) w1).alloc _) (fun _ _ => id)) w1.heap.size t.f.no rfl (cellOf (heap_alloc_new w1 _) 0) (by have := HC.out.len; have := HLen.out; omega) (by simp; have := HB.out; omega) ?_; intro v' w3 hr3 hg3; have H3 := hid (And.intro hr3 hg3); clear hr3 hg3)
          | go_in)
        go_roundw
        case rel => exact ⟨_, _, _, HC.out.take HQ.out.1 HQ.out.2.1 HQ.out.2.2 HMf.out ((Touch.refl _ w1).alloc _) H3.out.1 H3.out.2 HLt.out⟩
        case measure =>
          have q := (HC.out.take HQ.out.1 HQ.out.2.1 HQ.out.2.2 HMf.out ((Touch.refl _ w1).alloc _) H3.out.1 H3.out.2 HLt.out).rg
          rw [q.left, HR.out.left, List.length_map, List.length_map, HLn.out]; omega
set_option maxRecDepth 100000 in
set_option maxHeartbeats 400000 in
theorem bfresh_any {w : World} {O : Nat → Prop} {p dp : Nat} {s : F.Po} {n : Nat} (h : IsPool w O p dp s n) (hlen : s.L.length ≤ 10000) : Calls Tryd.prog 32 #[Ptr p] w (PNums w (F.which s F.isFresh)) := by
  obtain ⟨hb, y, G, h, _⟩ := h
  have H := hid (which_fresh h hlen)
  clear h hlen
  go_enter Tryd.func32, Tryd.ntmps32
  go_wp2_with (go_at_call 44; refine H.out.mono ?_; rintro e w1 ⟨v, rfl, H1⟩)
  go_ret
  exact ⟨v, rfl, H1⟩
end Go.Proofs.YtokbiekdompaoaaDoor

/- Frames change in place: the laws for Accept and Flush. -/
namespace Go.Proofs.YtokbiekdompaoaaDoor
open Go.RowKit

namespace F
set_option maxRecDepth 100000 in
theorem acc_no (f : Fr) : (acc f).no = f.no := by unfold acc; split <;> rfl
set_option maxRecDepth 100000 in
theorem acc_acc (f : Fr) : acc (acc f) = acc f := by
  unfold acc
  cases h : f.fresh <;> simp [h]
/-- Some pages' frames are changed. -/
def updS (s : Po) (g : Fr → Fr) (ns : List Int) : Po := { s with L := s.L.map fun f => if ns.contains f.no then g f else f }
set_option maxRecDepth 100000 in
theorem updS_nil (s : Po) (g : Fr → Fr) : updS s g [] = s := by
  unfold updS
  simp
set_option maxRecDepth 100000 in
theorem updS_more {s : Po} {g : Fr → Fr} (hn : ∀ f, (g f).no = f.no) (hg : ∀ f, g (g f) = g f) (ns : List Int) (z : Int) : { updS s g ns with L := (updS s g ns).L.map fun f => if f.no = z then g f else f } = updS s g (ns ++ [z]) := by
  unfold updS
  simp only [List.map_map, Po.mk.injEq, true_and]
  refine List.map_congr_left (fun f _ => ?_)
  simp only [Function.comp]
  by_cases h1 : ns.contains f.no = true
  · have h2 : (ns ++ [z]).contains f.no = true := by simp at h1 ⊢; exact .inl h1
    rw [if_pos h1, if_pos h2, hn]
    split
    · exact hg f
    · rfl
  · rw [if_neg h1]
    by_cases h3 : f.no = z
    · have h2 : (ns ++ [z]).contains f.no = true := by simp [h3]
      rw [if_pos h3, if_pos h2]
    · have h2 : ¬ (ns ++ [z]).contains f.no = true := by simp at h1 ⊢; exact ⟨h1, h3⟩
      rw [if_neg h3, if_neg h2]
set_option maxRecDepth 100000 in
theorem mem_which {s : Po} {m : Fr → Bool} {z : Int} : z ∈ which s m ↔ ∃ f ∈ s.L, m f = true ∧ f.no = z := by
  unfold which
  rw [(rise_perm _).mem_iff]
  simp [List.mem_map, List.mem_filter, and_assoc]
set_option maxRecDepth 100000 in
/-- All of a kind are changed. -/
theorem updS_all {s : Po} {g : Fr → Fr} {m : Fr → Bool} (hg : ∀ f, m f = false → g f = f) : updS s g (which s m) = { s with L := s.L.map g } := by
  unfold updS
  simp only [Po.mk.injEq, true_and]
  refine List.map_congr_left (fun f hf => ?_)
  by_cases h : (which s m).contains f.no = true
  · rw [if_pos h]
  · rw [if_neg h]
    refine (hg f ?_).symm
    cases hm : m f
    · rfl
    · exact absurd (by simpa using mem_which.2 ⟨f, hf, hm, rfl⟩) h
end F
set_option maxRecDepth 100000 in
/-- One frame is changed. -/
theorem PoolAt.upd {w w' : World} {O : Nat → Prop} {p dp : Nat} {s : F.Po} {hb : Nat} {y : Int} {G : List Tk} (h : PoolAt w O p dp s hb y G) {t : Tk} (ht : t ∈ G) (g : Tk → Tk) (gf : F.Fr → F.Fr) (hg : ∀ u, (g u).b = u.b ∧ (g u).age = u.age ∧ (g u).f = gf u.f ∧ (gf u.f).no = u.f.no ∧ (g u).bl.Sublist u.bl)
    (hT : Touch (fun k => k = t.b) w w') (ht' : TkAt w' O (g t)) : PoolAt w' O p dp { s with L := s.L.map fun f => if f.no = t.f.no then gf f else f } hb y (G.map fun u => if u.f.no = t.f.no then g u else u) := by
  obtain ⟨g0, o0, c0, hb0, _⟩ := (h.at' t ht).now
  have hpb : p ≠ t.b := fun e => by have := h.box; rw [e, hb0] at this; cases this
  have hhb : hb ≠ t.b := fun e => by obtain ⟨es, clock, hm, _⟩ := h.mp; rw [e, hb0] at hm; cases hm
  have hnd := List.nodup_append.1 (gs_nodup h ht)
  refine ⟨?_, ?_, ?_, ?_, ?_, ?_, ?_, h.y0, h.op, h.oh⟩
  · rw [hT.block p (Array.getElem?_eq_some_iff.1 h.box).1 hpb]; exact h.box
  · have e : (G.map fun u => if u.f.no = t.f.no then g u else u).map Tk.pr = G.map Tk.pr := by
      rw [List.map_map]
      refine List.map_congr_left (fun u _ => ?_)
      simp only [Function.comp]
      split
      · unfold Tk.pr; rw [(hg u).1, (hg u).2.2.1, (hg u).2.2.2.1]
      · rfl
    rw [e]
    exact h.mp.touch hT hhb
  · show s.L.map _ = _
    rw [h.L, List.map_map, List.map_map]
    refine List.map_congr_left (fun u _ => ?_)
    simp only [Function.comp]
    split
    · exact (hg u).2.2.1.symm
    · rfl
  · intro u hu
    obtain ⟨v, hv, rfl⟩ := List.mem_map.1 hu
    split
    · rename_i e
      rw [mem_nodup h.once hv ht e]
      exact ht'
    · rename_i e
      have : ¬ t.b ∈ v.bl := fun c => hnd.2.2 t.b (List.mem_flatMap.2 ⟨v, gs_mem.2 ⟨hv, e⟩, c⟩) t.b (by simp [Tk.bl]) rfl
      exact (h.at' v hv).other hb0 t.wp_no hT this
  · have key : ∀ l : List Tk, ((l.map fun u => if u.f.no = t.f.no then g u else u).flatMap Tk.bl).Sublist (l.flatMap Tk.bl) := by
      intro l
      induction l with
      | nil => exact List.Sublist.refl _
      | cons x l ih =>
        rw [List.map_cons, List.flatMap_cons, List.flatMap_cons]
        refine List.Sublist.append ?_ ih
        split
        · exact (hg x).2.2.2.2
        · exact List.Sublist.refl _
    exact h.nd.sublist (key G)
  · rw [List.pairwise_map]
    refine h.age.imp (fun {a b} q => ?_)
    have e : ∀ u : Tk, (if u.f.no = t.f.no then g u else u).age = u.age := fun u => by split; exact (hg u).2.1; rfl
    rw [e, e]
    exact q
  · intro u hu
    obtain ⟨v, hv, rfl⟩ := List.mem_map.1 hu
    split
    · rw [(hg v).2.1]; exact h.le v hv
    · exact h.le v hv
/-- A frame that is accepted. -/
def Tk.acc (t : Tk) : Tk := { t with f := F.acc t.f }
set_option maxRecDepth 100000 in
theorem Tk.acc_is (u : Tk) : u.acc.b = u.b ∧ u.acc.age = u.age ∧ u.acc.f = F.acc u.f ∧ (F.acc u.f).no = u.f.no ∧ u.acc.bl.Sublist u.bl := by
  exact ⟨rfl, rfl, rfl, F.acc_no _, List.Sublist.refl _⟩
set_option maxRecDepth 100000 in
theorem PoolAt.accept {w w' : World} {O : Nat → Prop} {p dp : Nat} {s : F.Po} {hb : Nat} {y : Int} {G : List Tk} (h : PoolAt w O p dp s hb y G) {t : Tk} (ht : t ∈ G) (hf : t.f.fresh = true) (hw : w' = (w.setCell ⟨t.b, 1, none⟩ (.int .i64 1)).setCell ⟨t.b, 3, none⟩ (.slice none 0 0)) :
    PoolAt w' O p dp { s with L := s.L.map fun f => if f.no = t.f.no then F.acc f else f } hb y (G.map fun u => if u.f.no = t.f.no then u.acc else u) ∧ Touch (fun k => k = t.b) w w' := by
  have hT : Touch (fun k => k = t.b) w w' := by rw [hw]; exact Touch.setCell (T := fun k => k = t.b) (Touch.setCell (T := fun k => k = t.b) (Touch.refl _ w) (p := ⟨t.b, 1, none⟩) (fun _ => rfl) _) (p := ⟨t.b, 3, none⟩) (fun _ => rfl) _
  refine ⟨h.upd ht Tk.acc F.acc Tk.acc_is hT ⟨?_, ?_⟩, hT⟩
  · obtain ⟨g, o, c, h1, h2, h3, h4, h5, h6⟩ := (h.at' t ht).now
    have e1 : F.st t.acc.f = 1 := by show F.st (F.acc t.f) = 1; unfold F.acc F.st; rw [hf]; rfl
    have e2 : t.acc.wp = .slice none 0 0 := by show (if (F.acc t.f).fresh && (F.acc t.f).dirty then _ else _) = _; unfold F.acc; rw [hf]; rfl
    have e3 : t.acc.f.now = t.f.now := by show (F.acc t.f).now = _; unfold F.acc; rw [hf]; rfl
    rw [e1, e2, e3]
    refine ⟨g, o, c, ?_, h2, h3, h4, h5, h6.block (fun b' o' e hb => by cases e; exact hT.block _ hb (FrAt.ne h1 h6 h5 t.wp_no))⟩
    rw [hw]
    exact heap_setCell_same _ t.b 3 _ 79 _ (heap_setCell_same w t.b 1 _ 79 _ h1)
  · intro e
    have : t.acc.both = false := by show ((F.acc t.f).fresh && (F.acc t.f).dirty) = false; unfold F.acc; rw [hf]; rfl
    rw [this] at e
    cases e
set_option maxRecDepth 100000 in
/-- Numbers in a row, one by one. -/
theorem row_get {w : World} {B : Nat} {v : Value} {zs : List Int} (h : w.ownsRow B 3 1 v zs.length (I zs)) : ∃ a cap, v = .slice a zs.length cap ∧ ∀ i (hi : i < zs.length), ∃ b o, a = some ⟨b, o, none⟩ ∧ v.ownBlock = some b ∧ w.cell? ⟨b, o + i, none⟩ = some (.int .i64 zs[i]) := by
  obtain ⟨a, cap, e, _, _, hq⟩ := own_cq h
  refine ⟨a, cap, e, fun i hi => ?_⟩
  obtain ⟨b, o, e1, h1, h2⟩ := hq i (.int .i64 zs[i]) (by simp [I, hi])
  exact ⟨b, o, e1, h1, h2⟩
end Go.Proofs.YtokbiekdompaoaaDoor
