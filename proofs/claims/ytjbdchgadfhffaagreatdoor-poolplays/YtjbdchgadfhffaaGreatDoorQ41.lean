/- Texts put together: FAcc2, FWrite, FFlush, FOpen. -/
import Derived.Test.YtjbdchgadfhffaaGreatDoorQ40
/- The pool's call Accept. -/
namespace Go.Proofs.YtjbdchgadfhffaaGreatDoor
open Go.RowKit

set_option maxRecDepth 100000 in
theorem take_next' {zs : List Int} {i : Nat} (hi : i < zs.length) : zs.take (i + 1) = zs.take i ++ [zs[i]] := by simp
set_option maxRecDepth 100000 in
/-- The frame of a page that is not among those that were changed. -/
theorem upd_new {w : World} {O : Nat → Prop} {p dp : Nat} {s : F.Po} {g : F.Fr → F.Fr} {ns : List Int} {hb : Nat} {y : Int} {G : List Tk} (h : PoolAt w O p dp (F.updS s g ns) hb y G) {m : F.Fr → Bool} {z : Int} (hz : z ∈ F.which s m) (hn : ¬ z ∈ ns) :
    ∃ t ∈ G, t.f.no = z ∧ lk (G.map Tk.pr) z = .pointer (some ⟨t.b, 0, none⟩) ∧ t.f ∈ s.L ∧ m t.f = true := by
  obtain ⟨f, hf, hm, hno⟩ := F.mem_which.1 hz
  have hin : (if ns.contains f.no then g f else f) ∈ (F.updS s g ns).L := List.mem_map.2 ⟨f, hf, rfl⟩
  rw [if_neg (by simpa [hno] using hn), h.L] at hin
  obtain ⟨t, ht, e⟩ := List.mem_map.1 hin
  have hn' : t.f.no = z := by rw [e, hno]
  refine ⟨t, ht, hn', ?_, by rw [e]; exact hf, by rw [e]; exact hm⟩
  rw [← hn']; exact lk_some h.mp.once (List.mem_map_of_mem (f := Tk.pr) ht)
set_option maxRecDepth 100000 in
theorem which_nodup {w : World} {O : Nat → Prop} {p dp : Nat} {s : F.Po} {hb : Nat} {y : Int} {G : List Tk} (h : PoolAt w O p dp s hb y G) (m : F.Fr → Bool) : (F.which s m).Nodup := by
  unfold F.which
  rw [(rise_perm _).nodup_iff]
  have := h.once
  have e : (s.L.map (·.no)) = G.map (fun t => t.f.no) := by rw [h.L, List.map_map]; rfl
  rw [← e] at this
  exact this.sublist (List.filter_sublist.map _)
set_option maxRecDepth 100000 in
theorem not_take {zs : List Int} (hn : zs.Nodup) {i : Nat} (hi : i < zs.length) : ¬ zs[i] ∈ zs.take i := by
  intro c
  obtain ⟨j, hj, e⟩ := List.mem_iff_getElem.1 c
  rw [List.length_take] at hj
  rw [List.getElem_take] at e
  have := (List.getElem_inj hn).1 e
  omega
/-- What is left on the way through a list of pages. -/
structure Way (w wr : World) (O : Nat → Prop) (p dp : Nat) (s : F.Po) (g : F.Fr → F.Fr) (hb : Nat) (y : Int) (zs : List Int) (v : Value) (i : Nat) : Prop where
  pool : ∃ G, PoolAt wr O p dp (F.updS s g (zs.take i)) hb y G
  row : wr.ownsRow w.heap.size 3 1 v zs.length (I zs)
  touch : Touch O w wr
set_option maxRecDepth 100000 in
set_option maxHeartbeats 4000000 in
theorem baccept_any {w : World} {O : Nat → Prop} {p dp : Nat} {s : F.Po} {n : Nat} (h : IsPool w O p dp s n) (hO : ∀ k, O k → k < w.heap.size) (hlen : s.L.length ≤ 10000) : Calls Tryz.prog 15 #[Ptr p] w (PPut w O p dp (F.accS s) n ((F.which s F.isFresh).length : Int)) := by
  have HF := hid (bfresh_any h hlen)
  obtain ⟨hb, y, G, h, hy⟩ := h
  obtain ⟨zs, hzs⟩ : ∃ zs, zs = F.which s F.isFresh := ⟨_, rfl⟩
  rw [← hzs] at HF ⊢
  have HZ := hid hzs
  have HN := hid (show zs.Nodup by rw [hzs]; exact which_nodup h _)
  have HP := hid h
  have HY := hid hy
  have HO := hid hO
  have HS := hid (show F.updS s F.acc zs = F.accS s by
    rw [hzs]
    exact F.updS_all (fun f hf => by unfold F.isFresh at hf; unfold F.acc; rw [hf]; rfl))
  have hlz : zs.length ≤ 10000 := by
    have : zs.length = ((s.L.filter F.isFresh).map (·.no)).length := by rw [hzs]; exact length_rise _
    rw [this, List.length_map]
    exact Nat.le_trans (List.length_filter_le _ _) hlen
  unfold Ptr at *
  clear h hlen hzs hO hy
  go_enter Tryz.func15, Tryz.ntmps15
  go_upto_region 2 with (go_at_call 35; refine HF.out.mono ?_; rintro e w1 ⟨v1, rfl, H1⟩)
  obtain ⟨a1, k1, rfl, hget⟩ := row_get H1.out.1
  have HW : Hid (Way w w1 O p dp s F.acc hb y zs (.slice a1 zs.length k1) 0) := ⟨⟨G, by rw [List.take_zero, F.updS_nil]; exact HP.out.adds H1.out.2⟩, H1.out.1, H1.out.2.mono (fun _ _ c => c.elim)⟩
  clear hget
  generalize hzl : zs.length = zl at *
  have HZL := hid hzl
  clear hzl
  go_wp2_with fail
  go_loopw [11] (fun iv wr => ∃ i : Nat, iv = .int .i64 (i : Int) ∧ i ≤ zl ∧ Hid (Way w wr O p dp s F.acc hb y zs (.slice a1 zl k1) i)) (fun iv _ => zl - (intOf iv).toNat)
  case atStart => exact ⟨0, rfl, Nat.zero_le _, HW.out⟩
  case round =>
    obtain ⟨i, rfl, hi, HI⟩ := hrel
    by_cases hlt : i < zl
    · have hltz : (i : Int) < (zl : Int) := by omega
      have hlt' : i < zs.length := by rw [HZL.out]; exact hlt
      obtain ⟨G1, hG1⟩ := HI.out.pool
      have hrow := HI.out.row
      obtain ⟨a2, k2, e2, hget⟩ := row_get hrow
      obtain ⟨b, o, ea, hbo, hc⟩ := hget i hlt'
      rw [HZL.out] at e2
      cases e2
      subst ea
      obtain ⟨t, htG, htn, hlk, htL, htm⟩ := upd_new hG1 (m := F.isFresh) (z := zs[i]) (by rw [← HZ.out]; exact List.getElem_mem hlt') (not_take HN.out hlt')
      have c4 : wr.cell? ⟨p, 4, none⟩ = some (.map (some hb)) := cellOf hG1.box 4
      have HMP := hid hG1.mp
      have HLK := hid hlk
      obtain ⟨tg, tof, tc, htb, _⟩ := (hG1.at' t htG).now
      have e1 : wr.cell? ⟨t.b, 1, none⟩ = some (.int .i64 (F.st t.f)) := cellOf htb 1
      have e3 : wr.cell? ⟨t.b, 3, none⟩ = some t.wp := cellOf htb 3
      have f1 : wr.frozen? ⟨t.b, 1, none⟩ = false := frozen_of_row wr t.b 1 _ 92 htb
      have f3 : wr.frozen? ⟨t.b, 3, none⟩ = false := frozen_of_row wr t.b 3 _ 92 htb
      have HG1 := hid (And.intro hG1 (And.intro htG (And.intro htn htm)))
      obtain ⟨z, hz⟩ : ∃ z, z = zs[i] := ⟨_, rfl⟩
      rw [← hz] at hc HLK HG1
      have HZI := hid hz
      clear hG1 htG htn hlk htL htm htb hget hrow hz hbo
      go_wp2_with (first
        | (at_lookup; refine wpList_lookup_p rfl _ _ 88 rfl 3 86 Tryz.underlying88 Tryz.underlying3 zeroPF hb rfl HMP.out _ rfl ?_; rw [HLK.out])
        | go_in)
      go_roundw
      case rel =>
        obtain ⟨q1, q2⟩ := PoolAt.accept (w' := (wr.setCell ⟨t.b, 1, none⟩ (.int .i64 1)).setCell ⟨t.b, 3, none⟩ (.slice none 0 0)) HG1.out.1 HG1.out.2.1 HG1.out.2.2.2 rfl
        have hOb : O t.b := (HG1.out.1.at' t HG1.out.2.1).now.own
        refine ⟨i + 1, by go_num, by omega, ?_, row_keep HI.out.row q2 (fun k hk e => ?_), HI.out.touch.trans (q2.mono (fun k _ e => by rw [e]; exact hOb))⟩
        · rw [take_next' (by rw [HZL.out]; exact hlt), ← F.updS_more F.acc_no F.acc_acc]
          have := HZI.out
          rw [HG1.out.2.2.1] at q1
          rw [this] at q1
          exact ⟨_, q1⟩
        · have h1 := (row_low HI.out.row hk).1
          have h2 := HO.out _ hOb
          rw [e] at h1
          omega
      case measure => simp [intOf]; omega
    · have hltz : ¬ (i : Int) < (zl : Int) := by omega
      obtain rfl : i = zl := by omega
      go_wp2_with fail
      go_ret
      obtain ⟨G1, hG1⟩ := HI.out.pool
      rw [← HZL.out, List.take_length, HS.out] at hG1
      exact ⟨rfl, O, ⟨hb, y, G1, hG1, HY.out⟩, HI.out.touch, fun k hk => .inl hk⟩
end Go.Proofs.YtjbdchgadfhffaaGreatDoor

/- Pages are laid down on the disk. -/
namespace Go.Proofs.YtjbdchgadfhffaaGreatDoor
open Go.RowKit

namespace F
/-- What holds of each state of a pool. -/
structure Good (s : Po) : Prop where
  nos : ∀ f ∈ s.L, 0 ≤ f.no ∧ f.no < s.ct
  pgs : ∀ f ∈ s.L, ∃ q, M.readP f.now = some q ∧ (q.no : Int) = f.no
  was : ∀ f ∈ s.L, f.fresh = true → f.dirty = true → ∃ q, M.readP f.was = some q ∧ (q.no : Int) = f.no
  len : (s.L.length : Int) ≤ s.mo
  nd : (s.L.map (·.no)).Nodup
/-- The writes of a Flush. -/
def wrs (s : Po) (zs : List Int) (i : Nat) : Int × List UInt8 := (s.fr + zs.getD i 0, flD s (zs.getD i 0))
end F
set_option maxRecDepth 100000 in
theorem sealP_some {bs : List UInt8} {q : M.Pg} (h : M.readP bs = some q) : M.sealP bs = sealed (bs.take 252) := by unfold M.sealP; rw [h]
/-- On the way through the writes. -/
structure WWay (w wr : World) (O OD : Nat → Prop) (p dp : Nat) (s : F.Po) (hb : Nat) (y : Int) (G : List Tk) (zs : List Int) (D0 : dSt) (k0 i : Nat) : Prop where
  pool : PoolAt wr O p dp s hb y G
  disk : ∃ D' O', IsDO wr O' dp D' ∧ (∀ k, O' k → OD k ∨ (w.heap.size ≤ k ∧ k < wr.heap.size)) ∧ DOk D' (k0 + i) ∧ D'.size = D0.size ∧ goW (F.wrs s zs) (zs.length - i) i D' = goW (F.wrs s zs) zs.length 0 D0
  touch : Touch OD w wr
/-- What write leaves. -/
def PWrt (w : World) (OD : Nat → Prop) (dp : Nat) (x : Int × dSt) (e : Ending) (w' : World) : Prop := e = .returned (.int .i64 x.1) ∧ Hid (∃ O', IsDO w' O' dp x.2 ∧ Touch OD w w' ∧ ∀ k, O' k → OD k ∨ (w.heap.size ≤ k ∧ k < w'.heap.size))
set_option maxRecDepth 100000 in
set_option maxHeartbeats 4000000 in
theorem bwrite_any {w : World} {O OD : Nat → Prop} {p dp : Nat} {s : F.Po} {hb : Nat} {y : Int} {G : List Tk} {D : dSt} {k0 : Nat} (h : PoolAt w O p dp s hb y G) (hd : IsDO w OD dp D) (hk : DOk D k0) (hap : ∀ k, O k → ¬ OD k) (hOl : ∀ k, O k → k < w.heap.size) (hgd : F.Good s) (hok : POk s D) (hTt : ∀ w', Touch OD w w' → Tab w')
    (zs : List Int) (hz : zs = F.which s F.isDirty) (hk9 : k0 + zs.length ≤ 890) (a : Option Addr) (cap : Nat) (hrow : ∀ i (hi : i < zs.length), ∃ b o, a = some ⟨b, o, none⟩ ∧ ¬ OD b ∧ w.cell? ⟨b, o + i, none⟩ = some (.int .i64 zs[i])) :
    Calls Tryz.prog 50 #[Ptr p, .slice a zs.length cap] w (PWrt w OD dp (goW (F.wrs s zs) zs.length 0 D)) := by
  have HP := hid h
  have HW : Hid (WWay w w O OD p dp s hb y G zs D k0 0) := ⟨h, ⟨D, OD, hd, fun k c => .inl c, hk, rfl, rfl⟩, Touch.refl _ _⟩
  have HAp := hid hap
  have HOl := hid hOl
  have HGd := hid hgd
  have HOk := hid hok
  have HTt := hid hTt
  have HZ := hid hz
  have HK := hid hk9
  have HRow := hid hrow
  have hlz : zs.length ≤ 890 := by omega
  unfold Ptr at *
  clear h hd hk hap hOl hgd hok hTt hz hk9 hrow
  obtain ⟨zl, hzl⟩ : ∃ zl, zs.length = zl := ⟨_, rfl⟩
  rw [hzl] at HK hlz ⊢
  have HZL := hid hzl
  clear hzl
  go_enter Tryz.func50, Tryz.ntmps50
  go_wp2_with fail
  go_loopw [12] (fun iv wr => ∃ i : Nat, iv = .int .i64 (i : Int) ∧ i ≤ zl ∧ Hid (WWay w wr O OD p dp s hb y G zs D k0 i)) (fun iv _ => zl - (intOf iv).toNat)
  case atStart => exact ⟨0, rfl, Nat.zero_le _, HW.out⟩
  case round =>
    obtain ⟨i, rfl, hi, HI⟩ := hrel
    by_cases hlt : i < zl
    · have hltz : (i : Int) < (zl : Int) := by omega
      have hlt' : i < zs.length := by rw [HZL.out]; exact hlt
      obtain ⟨b, o, ea, hnb, hc0⟩ := HRow.out i hlt'
      have hc : wr.cell? ⟨b, o + i, none⟩ = some (.int .i64 zs[i]) := by
        rw [World.cell?_of_block (w := w) (HI.out.touch.block b (World.block_lt_of_cell? _ _ hc0) hnb)]
        exact hc0
      subst ea
      obtain ⟨z, hz⟩ : ∃ z, z = zs[i] := ⟨_, rfl⟩
      obtain ⟨t, htG, htn, hlk, htL, htm⟩ := upd_new (g := id) (ns := []) (m := F.isDirty) (z := z) (show PoolAt wr O p dp (F.updS s id []) hb y G by rw [F.updS_nil]; exact HI.out.pool) (by rw [hz, ← HZ.out]; exact List.getElem_mem hlt') (by simp)
      rw [← hz] at hc
      have hno := HGd.out.nos t.f htL
      obtain ⟨q, hq, hqn⟩ := HGd.out.pgs t.f htL
      have c4 : wr.cell? ⟨p, 4, none⟩ = some (.map (some hb)) := cellOf HI.out.pool.box 4
      have HMP := hid HI.out.pool.mp
      have HLK := hid hlk
      obtain ⟨tg, tof, tc, htb, _, _, htc, htl, hta⟩ := (HI.out.pool.at' t htG).now
      have e0 : wr.cell? ⟨t.b, 0, none⟩ = some (.slice (some ⟨tg, tof, none⟩) 256 tc) := cellOf htb 0
      have HSl := hid (gseal_some hq (some ⟨tg, tof, none⟩) tc wr htl htc hta (HTt.out wr HI.out.touch))
      have hgz : zs.getD i 0 = z := by rw [hz, List.getD_eq_getElem?_getD, List.getElem?_eq_getElem hlt']; rfl
      have HF := hid (show F.wrs s zs i = (s.fr + z, sealed (t.f.now.take 252)) by
        unfold F.wrs F.flD
        rw [hgz]
        rcases HI.out.pool.find z with ⟨u, hu, hun, h1, _⟩ | ⟨h1, _⟩
        · rw [h1, mem_nodup HI.out.pool.once hu htG (by rw [hun, htn])]
          rw [← sealP_some hq]
        · exact absurd htn (h1 t htG))
      have hwr : wrap64 (s.fr + z) = s.fr + z := by rw [← htn]; have := HOk.out.fr0; have := HOk.out.fit; have := HOk.out.size; simp [wrap64]; omega
      have hwi : IntKind.i64.wrap (s.fr + z) = s.fr + z := by rw [IntKind.wrap_i64, ← htn]; have := HOk.out.fr0; have := HOk.out.fit; have := HOk.out.size; omega
      have HIx := hid (show 0 ≤ s.fr + z ∧ s.fr + z < D.size by rw [← htn]; have := HOk.out.fr0; have := HOk.out.fit; omega)
      have HWR := hid (And.intro hwr hwi)
      obtain ⟨D', O', hD', hO', hK', hS', hG'⟩ := HI.out.disk
      have HD' := hid hD'
      have HE := hid (And.intro hO' (And.intro hK' (And.intro hS' hG')))
      clear htG htn hlk htL htm htb hta hno hq hqn hz hgz hD' hO' hK' hS' hG' hc0 hnb
      generalize sealed (t.f.now.take 252) = sb at *
      go_upto_region 7 with (first
        | (at_lookup; refine wpList_lookup_p rfl _ _ 88 rfl 3 86 Tryz.underlying88 Tryz.underlying3 zeroPF hb rfl HMP.out _ rfl ?_; rw [HLK.out])
        | (go_at_call 70; refine HSl.out.mono ?_; rintro e w2 ⟨g2, k2, rfl, H2⟩)
        | go_in)
      have HA2 := hid H2.out.2.2.2.2
      have HP2 := hid (HI.out.pool.adds HA2.out)
      have c0 : w2.cell? ⟨p, 0, none⟩ = some (.pointer (some ⟨dp, 0, none⟩)) := cellOf HP2.out.box 0
      have c1 : w2.cell? ⟨p, 1, none⟩ = some (.int .i64 s.fr) := cellOf HP2.out.box 1
      have HWt := hid (fun (w3 : World) (hA : Adds w2 w3) (zi : Int) (hzi : zi = s.fr + z) => show Calls Tryz.prog 77 #[.pointer (some ⟨dp, 0, none⟩), .int .i64 zi, .slice (some ⟨g2, 0, none⟩) 256 k2] w3 (PDo w3 O' dp (if D'.left = 0 then 10 else 0) (if D'.left = 0 then D' else D'.wrote (s.fr + z) sb)) by
        rw [hzi]
        exact dput_any ((HD'.out.adds HA2.out).adds hA) HE.out.2.1 (by have := HK.out; omega) (s.fr + z) (by rw [HE.out.2.2.1]; exact HIx.out) g2 k2 sb H2.out.2.1 ((At.own H2.out.2.2.2.1).adds hA))
      by_cases hoff : D'.left = 0
      · rw [if_pos hoff, if_pos hoff] at HWt
        go_cut [9] (fun v9 w4 => v9 = .int .i64 10 ∧ Hid (∃ O4, IsDO w4 O4 dp D' ∧ Touch O' w2 w4 ∧ ∀ k, O4 k → O' k ∨ (w2.heap.size ≤ k ∧ k < w4.heap.size)))
        case first =>
          go_region_with (go_at_call 77; refine (HWt.out _ (Touch.refl _ w2).drew _ (by first | rfl | exact HWR.out.1 | exact HWR.out.2)).mono ?_; rintro e w4 ⟨rfl, H4⟩)
          all_goals
            go_wp2
            go_meet
            case rel =>
              obtain ⟨O4, h1, h2, h3⟩ := H4.out
              exact ⟨rfl, O4, h1, ((Touch.refl _ w2).drew).trans h2, h3⟩
        case rest =>
          obtain ⟨rfl, H4⟩ := hcut
          go_wp2
          go_ret
          obtain ⟨O4, h1, h2, h3⟩ := H4.out
          have e1 : goW (F.wrs s zs) zl 0 D = (10, D') := by
            rw [← HZL.out, ← HE.out.2.2.2, show zs.length - i = (zs.length - i - 1) + 1 by omega, goW, if_pos hoff]
          rw [e1]
          have z1 := HI.out.touch.size
          have z2 := HA2.out.size
          have z4 := h2.size
          refine ⟨rfl, O4, h1, (HI.out.touch.trans (HA2.out.mono (fun _ _ c => c.elim))).then h2 (fun k hk c => ?_), fun k c => ?_⟩
          · rcases HE.out.1 k c with c | c
            · exact c
            · omega
          · rcases h3 k c with c | c
            · rcases HE.out.1 k c with c | c
              · exact .inl c
              · exact .inr ⟨c.1, by omega⟩
            · exact .inr ⟨by omega, c.2⟩
      · rw [if_neg hoff, if_neg hoff] at HWt
        go_cut [9] (fun v9 w4 => v9 = .int .i64 0 ∧ Hid (∃ O4, IsDO w4 O4 dp (D'.wrote (s.fr + z) sb) ∧ Touch O' w2 w4 ∧ ∀ k, O4 k → O' k ∨ (w2.heap.size ≤ k ∧ k < w4.heap.size)))
        case first =>
          go_region_with (go_at_call 77; refine (HWt.out _ (Touch.refl _ w2).drew _ (by first | rfl | exact HWR.out.1 | exact HWR.out.2)).mono ?_; rintro e w4 ⟨rfl, H4⟩)
          all_goals
            go_wp2
            go_meet
            case rel =>
              obtain ⟨O4, h1, h2, h3⟩ := H4.out
              exact ⟨rfl, O4, h1, ((Touch.refl _ w2).drew).trans h2, h3⟩
        case rest =>
          obtain ⟨rfl, H4⟩ := hcut
          go_wp2
          go_roundw
          case rel =>
            obtain ⟨O4, h1, h2, h3⟩ := H4.out
            have z1 := HI.out.touch.size
            have z2 := HA2.out.size
            have z4 := h2.size
            have hT4 : Touch OD w wc := (HI.out.touch.trans (HA2.out.mono (fun _ _ c => c.elim))).then h2 (fun k hk c => by
              rcases HE.out.1 k c with c | c
              · exact c
              · omega)
            refine ⟨i + 1, by go_num, by omega, HP2.out.touch h2 (fun k hk c => ?_), ⟨_, O4, h1, fun k c => ?_, (HE.out.2.1.wrote _ _).mono (by omega), HE.out.2.2.1, ?_⟩, hT4⟩
            · have := HOl.out k hk
              rcases HE.out.1 k c with c | c
              · exact HAp.out k hk c
              · omega
            · rcases h3 k c with c | c
              · rcases HE.out.1 k c with c | c
                · exact .inl c
                · exact .inr ⟨c.1, by omega⟩
              · exact .inr ⟨by omega, c.2⟩
            · rw [← HE.out.2.2.2, show zs.length - i = (zs.length - (i + 1)) + 1 by omega, goW, if_neg hoff, HF.out]
          case measure => simp [intOf]; omega
    · have hltz : ¬ (i : Int) < (zl : Int) := by omega
      obtain rfl : i = zl := by omega
      obtain ⟨D', O', hD', hO', hK', hS', hG'⟩ := HI.out.disk
      have c0 : wr.cell? ⟨p, 0, none⟩ = some (.pointer (some ⟨dp, 0, none⟩)) := cellOf HI.out.pool.box 0
      have HSy := hid (show Calls Tryz.prog 78 #[.pointer (some ⟨dp, 0, none⟩)] wr _ from dsync_do hD' hK' (by have := HK.out; omega))
      have HG := hid (And.intro hG' hO')
      clear hD' hK' hS' hG' hO'
      generalize hsz : (if D'.left = 0 then (10 : Int) else 0) = sz at *
      generalize hsd : (if D'.left = 0 then D' else D'.synced) = sd at *
      have HSZ := hid (And.intro hsz hsd)
      clear hsz hsd
      go_wp2_with (go_at_call 78; refine HSy.out.mono ?_; rintro e w2 ⟨rfl, H2⟩)
      go_ret
      obtain ⟨O2, h1, h2, h3⟩ := H2.out
      have e1 : goW (F.wrs s zs) i 0 D = (sz, sd) := by
        rw [← HZL.out, ← HG.out.1, HZL.out, Nat.sub_self, goW, ← HSZ.out.1, ← HSZ.out.2]
        split <;> rfl
      rw [e1]
      have z1 := HI.out.touch.size
      have z2 := h2.size
      refine ⟨rfl, O2, h1, HI.out.touch.then h2 (fun k hk c => ?_), fun k c => ?_⟩
      · rcases HG.out.2 k c with c | c
        · exact c
        · omega
      · rcases h3 k c with c | c
        · rcases HG.out.2 k c with c | c
          · exact .inl c
          · exact .inr ⟨c.1, by omega⟩
        · exact .inr ⟨by omega, c.2⟩
end Go.Proofs.YtjbdchgadfhffaaGreatDoor

/- The pool's call Flush. -/
namespace Go.Proofs.YtjbdchgadfhffaaGreatDoor
open Go.RowKit

namespace F
/-- A frame that was written. -/
def cln (f : Fr) : Fr := if f.fresh then f else { f with dirty := false }
set_option maxRecDepth 100000 in
theorem cln_no (f : Fr) : (cln f).no = f.no := by unfold cln; split <;> rfl
set_option maxRecDepth 100000 in
theorem cln_cln (f : Fr) : cln (cln f) = cln f := by
  unfold cln
  cases h : f.fresh <;> simp [h]
/-- Flush: the answer and the disk; the state behind it. -/
def flX (s : Po) (D : dSt) : Int × dSt := if which s isFresh = [] then (if which s isDirty = [] then (0, D) else goW (wrs s (which s isDirty)) (which s isDirty).length 0 D) else (42, D)
def flS (s : Po) (D : dSt) : Po := if (flX s D).1 = 0 then { s with L := s.L.map cln } else s
set_option maxRecDepth 100000 in
theorem which_nil {s : Po} {m : Fr → Bool} (h : which s m = []) : ∀ f ∈ s.L, m f = false := by
  intro f hf
  cases hm : m f
  · rfl
  · have := mem_which.2 ⟨f, hf, hm, rfl⟩
    rw [h] at this
    cases this
end F
def Tk.cln (t : Tk) : Tk := { t with f := F.cln t.f }
set_option maxRecDepth 100000 in
theorem Tk.cln_is (u : Tk) : u.cln.b = u.b ∧ u.cln.age = u.age ∧ u.cln.f = F.cln u.f ∧ (F.cln u.f).no = u.f.no ∧ u.cln.bl.Sublist u.bl := by
  exact ⟨rfl, rfl, rfl, F.cln_no _, List.Sublist.refl _⟩
set_option maxRecDepth 100000 in
theorem PoolAt.clean {w w' : World} {O : Nat → Prop} {p dp : Nat} {s : F.Po} {hb : Nat} {y : Int} {G : List Tk} (h : PoolAt w O p dp s hb y G) {t : Tk} (ht : t ∈ G) (hf : t.f.fresh = false) (hw : w' = w.setCell ⟨t.b, 1, none⟩ (.int .i64 0)) :
    PoolAt w' O p dp { s with L := s.L.map fun f => if f.no = t.f.no then F.cln f else f } hb y (G.map fun u => if u.f.no = t.f.no then u.cln else u) ∧ Touch (fun k => k = t.b) w w' := by
  have hT : Touch (fun k => k = t.b) w w' := by rw [hw]; exact Touch.setCell (T := fun k => k = t.b) (Touch.refl _ w) (p := ⟨t.b, 1, none⟩) (fun _ => rfl) _
  refine ⟨h.upd ht Tk.cln F.cln Tk.cln_is hT ⟨?_, ?_⟩, hT⟩
  · obtain ⟨g, o, c, h1, h2, h3, h4, h5, h6⟩ := (h.at' t ht).now
    have e1 : F.st t.cln.f = 0 := by show F.st (F.cln t.f) = 0; unfold F.cln F.st; rw [hf]; simp
    have e2 : t.cln.wp = t.wp := by
      show (if (F.cln t.f).fresh && (F.cln t.f).dirty then _ else _) = (if t.f.fresh && t.f.dirty then _ else _)
      unfold F.cln; rw [hf]; simp
    have e3 : t.cln.f.now = t.f.now := by show (F.cln t.f).now = _; unfold F.cln; rw [hf]; rfl
    rw [e1, e2, e3]
    refine ⟨g, o, c, ?_, h2, h3, h4, h5, h6.block (fun b' o' e hb => by cases e; exact hT.block _ hb (FrAt.ne h1 h6 h5 t.wp_no))⟩
    rw [hw]
    exact heap_setCell_same w t.b 1 _ 92 _ h1
  · intro e
    have : t.cln.both = false := by show ((F.cln t.f).fresh && (F.cln t.f).dirty) = false; unfold F.cln; rw [hf]; simp
    rw [this] at e
    cases e
/-- What Flush leaves. -/
def PFl (w : World) (O OD : Nat → Prop) (p dp : Nat) (s : F.Po) (n : Nat) (z : Int) (D : dSt) (e : Ending) (w' : World) : Prop := e = .returned (.int .i64 z) ∧ Hid (IsPool w' O p dp s n ∧ ∃ O', IsDO w' O' dp D ∧ Touch (fun k => O k ∨ OD k) w w' ∧ ∀ k, O' k → OD k ∨ (w.heap.size ≤ k ∧ k < w'.heap.size))
/-- On the way through what is clean. -/
structure CWay (w wr : World) (O OD : Nat → Prop) (p dp : Nat) (s : F.Po) (hb : Nat) (y : Int) (zs : List Int) (v : Value) (B : Nat) (D : dSt) (i : Nat) : Prop where
  pool : ∃ G, PoolAt wr O p dp (F.updS s F.cln (zs.take i)) hb y G
  row : wr.ownsRow B 3 1 v zs.length (I zs)
  disk : ∃ O', IsDO wr O' dp D ∧ ∀ k, O' k → OD k ∨ (w.heap.size ≤ k ∧ k < wr.heap.size)
  touch : Touch (fun k => O k ∨ OD k) w wr
set_option maxRecDepth 100000 in
set_option maxHeartbeats 4000000 in
theorem bflush_any {w : World} {O OD : Nat → Prop} {p dp : Nat} {s : F.Po} {n : Nat} {D : dSt} {k0 : Nat} (h : IsPool w O p dp s n) (hd : IsDO w OD dp D) (hk : DOk D k0) (hap : ∀ k, O k → ¬ OD k) (hOl : ∀ k, O k ∨ OD k → k < w.heap.size) (hgd : F.Good s) (hok : POk s D) (hTt : ∀ w', Touch (fun k => O k ∨ OD k) w w' → Tab w') (hk9 : k0 + (F.which s F.isDirty).length ≤ 890) :
    Calls Tryz.prog 16 #[Ptr p] w (PFl w O OD p dp (F.flS s D) n (F.flX s D).1 (F.flX s D).2) := by
  have hlen : s.L.length ≤ 10000 := by have := hgd.len; have := hok.mo2; omega
  have HFr := hid (bfresh_any h hlen)
  have HDi := hid (fun w1 (hA : Adds w w1) => bdirty_any (h.adds hA) hlen)
  obtain ⟨hb, y, G, h, hy⟩ := h
  have HM := hid (bmade_yes w p dp (cellOf h.box 0))
  have HP := hid h
  have HY := hid hy
  have HD := hid hd
  have HOl := hid hOl
  have HAp := hid hap
  unfold Ptr at *
  by_cases hq : F.which s F.isFresh = []
  · rw [hq] at HFr
    by_cases hq2 : F.which s F.isDirty = []
    · have e1 : F.flX s D = (0, D) := by unfold F.flX; rw [if_pos hq, if_pos hq2]
      have e2 : F.flS s D = s := by
        unfold F.flS
        rw [e1, if_pos rfl]
        have : s.L.map F.cln = s.L := by
          conv => rhs; rw [← List.map_id s.L]
          refine List.map_congr_left (fun f hf => ?_)
          have a1 := F.which_nil hq f hf
          have a2 := F.which_nil hq2 f hf
          unfold F.isFresh at a1
          unfold F.isDirty at a2
          unfold F.cln
          rw [a1]
          cases f
          simp_all
        rw [this]
      rw [e1, e2]
      rw [hq2] at HDi
      clear h hd hk hap hOl hgd hok hTt hk9 hy hq hq2 e1 e2 hlen
      go_enter Tryz.func16, Tryz.ntmps16
      go_wp2_with (first
        | (go_at_call 49; refine HM.out.mono ?_; rintro e _ ⟨rfl, hw⟩; rw [hw]; clear hw)
        | (go_at_call 35; refine HFr.out.mono ?_; rintro e w1 ⟨v1, rfl, H1⟩; obtain ⟨a1, k1, rfl, _⟩ := row_get H1.out.1)
        | (go_at_call 37; refine (HDi.out w1 H1.out.2).mono ?_; rintro e w2 ⟨v2, rfl, H2⟩; obtain ⟨a2, k2, rfl, _⟩ := row_get H2.out.1))
      go_ret
      have hA := H1.out.2.trans H2.out.2
      have hz := hA.size
      exact ⟨rfl, ⟨hb, y, G, HP.out.adds hA, HY.out⟩, OD, HD.out.adds hA, hA.mono (fun _ _ c => c.elim), fun k c => .inl c⟩
    · obtain ⟨zs, hzs⟩ : ∃ zs, zs = F.which s F.isDirty := ⟨_, rfl⟩
      have e1 : F.flX s D = goW (F.wrs s zs) zs.length 0 D := by unfold F.flX; rw [if_pos hq, if_neg hq2, hzs]
      have HFs := hid (show F.flS s D = if (goW (F.wrs s zs) zs.length 0 D).1 = 0 then { s with L := s.L.map F.cln } else s by unfold F.flS; rw [e1])
      rw [e1]
      rw [← hzs] at HDi hk9 hq2
      have HNf := hid (F.which_nil hq)
      have HZ := hid hzs
      have HN := hid (show zs.Nodup by rw [hzs]; exact which_nodup h _)
      have HS := hid (show F.updS s F.cln zs = { s with L := s.L.map F.cln } by
        rw [hzs]
        exact F.updS_all (fun f hf => by unfold F.isDirty at hf; unfold F.cln; split; rfl; cases f; simp_all))
      have hlz : 0 < zs.length := List.length_pos_iff.2 hq2
      have HWr := hid (fun (w2 : World) (hA : Adds w w2) (a2 : Option Addr) (c2 : Nat) (hrow : w2.ownsRow w.heap.size 3 1 (.slice a2 zs.length c2) zs.length (I zs)) => show Calls Tryz.prog 50 #[.pointer (some ⟨p, 0, none⟩), .slice a2 zs.length c2] w2 (PWrt w2 OD dp (goW (F.wrs s zs) zs.length 0 D)) by
        refine bwrite_any (h.adds hA) (hd.adds hA) hk hap (fun k c => Nat.lt_of_lt_of_le (hOl k (.inl c)) hA.size) hgd hok (fun w' hT => hTt w' ?_) zs hzs hk9 a2 c2 (fun i hi => ?_)
        · exact (hA.mono (fun _ _ c => c.elim)).then hT (fun _ _ c => .inr c)
        · obtain ⟨a3, c3, e3, hget⟩ := row_get hrow
          cases e3
          obtain ⟨b, o, ea, hb', hc⟩ := hget i hi
          exact ⟨b, o, ea, fun c => by have := (row_low hrow hb').1; have := hOl b (.inr c); omega, hc⟩)
      have HL9 := hid hk9
      clear h hd hk hap hOl hgd hok hTt hk9 hy hq hq2 e1 hlen hzs
      generalize hgo : goW (F.wrs s zs) zs.length 0 D = X at *
      clear hgo
      obtain ⟨zl, hzl⟩ : ∃ zl, zs.length = zl := ⟨_, rfl⟩
      have HZL := hid hzl
      have hlz' : zl ≤ 890 := by have := HL9.out; omega
      rw [hzl] at hlz HWr
      go_enter Tryz.func16, Tryz.ntmps16
      go_upto_region 6 with (first
        | (go_at_call 49; refine HM.out.mono ?_; rintro e _ ⟨rfl, hw⟩; rw [hw]; clear hw)
        | (go_at_call 35; refine HFr.out.mono ?_; rintro e w1 ⟨v1, rfl, H1⟩; obtain ⟨a1, k1, rfl, _⟩ := row_get H1.out.1)
        | (go_at_call 37; refine (HDi.out w1 H1.out.2).mono ?_; rintro e w2 ⟨v2, rfl, H2⟩))
      obtain ⟨a2, k2, rfl, _⟩ := row_get H2.out.1
      have HA2 := hid (H1.out.2.trans H2.out.2)
      have HR2 := hid (show w2.ownsRow w.heap.size 3 1 (.slice a2 zs.length k2) zs.length (I zs) from row_base H2.out.1 (fun k hk => by have := (row_low H2.out.1 hk).1; have := H1.out.2.size; omega))
      have HWr2 := hid (HWr.out w2 HA2.out a2 k2 (by have := HR2.out; rw [hzl] at this; exact this))
      rw [hzl] at HR2 ⊢
      clear hzl HWr
      have hnz : ¬ (zl : Int) = 0 := by omega
      have hnz' : ((zl : Int) == 0) = false := by simpa using hnz
      go_upto_region 9 with (go_at_call 50; refine HWr2.out.mono ?_; rintro e w3 ⟨rfl, H3⟩)
      by_cases hx : X.1 = 0
      · have HX := hid hx
        have hS2 : F.flS s D = { s with L := s.L.map F.cln } := by rw [HFs.out, if_pos hx]
        have HS2 := hid hS2
        rw [hx]
        have HC : Hid (CWay w w3 O OD p dp s hb y zs (.slice a2 zl k2) w.heap.size X.2 0) := by
          obtain ⟨O3, h1, h2, h3⟩ := H3.out
          have z2 := HA2.out.size
          have z3 := h2.size
          have q : PoolAt w3 O p dp s hb y G := (HP.out.adds HA2.out).touch h2 (fun k hk => HAp.out k hk)
          refine ⟨⟨G, by rw [List.take_zero, F.updS_nil]; exact q⟩, ?_, ⟨O3, h1, fun k c => ?_⟩, (HA2.out.mono (fun _ _ c => c.elim)).then h2 (fun _ _ c => .inr c)⟩
          · rw [HZL.out]
            exact row_keep HR2.out h2 (fun k hk c => by have := (row_low HR2.out hk).1; have := HOl.out k (.inr c); omega)
          · rcases h3 k c with c | c
            · exact .inl c
            · exact .inr ⟨by omega, c.2⟩
        clear hx hS2
        go_wp2_with fail
        go_loopw [29] (fun iv wr => ∃ i : Nat, iv = .int .i64 (i : Int) ∧ i ≤ zl ∧ Hid (CWay w wr O OD p dp s hb y zs (.slice a2 zl k2) w.heap.size X.2 i)) (fun iv _ => zl - (intOf iv).toNat)
        case atStart => exact ⟨0, rfl, Nat.zero_le _, HC.out⟩
        case round =>
          obtain ⟨i, rfl, hi, HI⟩ := hrel
          by_cases hlt : i < zl
          · have hltz : (i : Int) < (zl : Int) := by omega
            have hlt' : i < zs.length := by rw [HZL.out]; exact hlt
            obtain ⟨G1, hG1⟩ := HI.out.pool
            have hrow := HI.out.row
            obtain ⟨a3, k3, e3, hget⟩ := row_get hrow
            obtain ⟨b, o, ea, hbo, hc⟩ := hget i hlt'
            rw [HZL.out] at e3
            cases e3
            subst ea
            obtain ⟨t, htG, htn, hlk, htL, htm⟩ := upd_new hG1 (m := F.isDirty) (z := zs[i]) (by rw [← HZ.out]; exact List.getElem_mem hlt') (not_take HN.out hlt')
            have htf : t.f.fresh = false := HNf.out t.f htL
            have c4 : wr.cell? ⟨p, 4, none⟩ = some (.map (some hb)) := cellOf hG1.box 4
            have HMP := hid hG1.mp
            have HLK := hid hlk
            obtain ⟨tg, tof, tc, htb, _⟩ := (hG1.at' t htG).now
            have e1 : wr.cell? ⟨t.b, 1, none⟩ = some (.int .i64 (F.st t.f)) := cellOf htb 1
            have f1 : wr.frozen? ⟨t.b, 1, none⟩ = false := frozen_of_row wr t.b 1 _ 92 htb
            have HG1 := hid (And.intro hG1 (And.intro htG (And.intro htn htf)))
            obtain ⟨z, hz⟩ : ∃ z, z = zs[i] := ⟨_, rfl⟩
            rw [← hz] at hc HLK HG1
            have HZI := hid hz
            clear hG1 htG htn hlk htL htm htb hget hrow hz hbo htf
            go_wp2_with (first
              | (at_lookup; refine wpList_lookup_p rfl _ _ 88 rfl 3 86 Tryz.underlying88 Tryz.underlying3 zeroPF hb rfl HMP.out _ rfl ?_; rw [HLK.out])
              | go_in)
            go_roundw
            case rel =>
              obtain ⟨q1, q2⟩ := PoolAt.clean (w' := wr.setCell ⟨t.b, 1, none⟩ (.int .i64 0)) HG1.out.1 HG1.out.2.1 HG1.out.2.2.2 rfl
              have hOb : O t.b := (HG1.out.1.at' t HG1.out.2.1).now.own
              obtain ⟨O4, hd4, hd5⟩ := HI.out.disk
              have hlow : t.b < w.heap.size := HOl.out _ (.inl hOb)
              refine ⟨i + 1, by go_num, by omega, ?_, row_keep HI.out.row q2 (fun k hk e => ?_), ⟨O4, hd4.touch q2 (fun k c e => ?_), fun k c => ?_⟩, HI.out.touch.trans (q2.mono (fun k _ e => by rw [e]; exact .inl hOb))⟩
              · rw [take_next' (by rw [HZL.out]; exact hlt), ← F.updS_more F.cln_no F.cln_cln]
                have := HZI.out
                rw [HG1.out.2.2.1] at q1
                rw [this] at q1
                exact ⟨_, q1⟩
              · have h1 := (row_low HI.out.row hk).1
                rw [e] at h1
                omega
              · rcases hd5 k c with c | c
                · exact HAp.out _ hOb (by rw [← e]; exact c)
                · rw [e] at c; omega
              · have := q2.size
                rcases hd5 k c with c | c
                · exact .inl c
                · exact .inr ⟨c.1, by omega⟩
            case measure => simp [intOf]; omega
          · have hltz : ¬ (i : Int) < (zl : Int) := by omega
            obtain rfl : i = zl := by omega
            go_wp2_with fail
            go_ret
            obtain ⟨G1, hG1⟩ := HI.out.pool
            rw [← HZL.out, List.take_length, HS.out] at hG1
            obtain ⟨O4, hd4, hd5⟩ := HI.out.disk
            rw [HS2.out, HX.out]
            exact ⟨rfl, ⟨hb, y, G1, hG1, HY.out⟩, O4, hd4, HI.out.touch, hd5⟩
      · have hx' : (X.1 != 0) = true := by simpa using hx
        have hS2 : F.flS s D = s := by rw [HFs.out, if_neg hx]
        have HS2 := hid hS2
        clear hx hS2
        go_wp2_with fail
        go_ret
        obtain ⟨O3, h1, h2, h3⟩ := H3.out
        have z2 := HA2.out.size
        have q : PoolAt w3 O p dp s hb y G := (HP.out.adds HA2.out).touch h2 (fun k hk => HAp.out k hk)
        rw [HS2.out]
        refine ⟨rfl, ⟨hb, y, G, q, HY.out⟩, O3, h1, (HA2.out.mono (fun _ _ c => c.elim)).then h2 (fun _ _ c => .inr c), fun k c => ?_⟩
        rcases h3 k c with c | c
        · exact .inl c
        · exact .inr ⟨by omega, c.2⟩
  · have e1 : F.flX s D = (42, D) := by unfold F.flX; rw [if_neg hq]
    have e2 : F.flS s D = s := by unfold F.flS; rw [e1]; rfl
    rw [e1, e2]
    obtain ⟨zs, hzs⟩ : ∃ zs, zs = F.which s F.isFresh := ⟨_, rfl⟩
    rw [← hzs] at HFr hq
    have hlz : 0 < zs.length := List.length_pos_iff.2 hq
    clear h hd hk hap hOl hgd hok hTt hk9 hy hq e1 e2 hlen hzs
    obtain ⟨zl, hzl⟩ : ∃ zl, zs.length = zl := ⟨_, rfl⟩
    rw [hzl] at hlz
    have hnz : (0 : Int) < (zl : Int) := by omega
    go_enter Tryz.func16, Tryz.ntmps16
    go_wp2_with (first
      | (go_at_call 49; refine HM.out.mono ?_; rintro e _ ⟨rfl, hw⟩; rw [hw]; clear hw)
      | (go_at_call 35; refine HFr.out.mono ?_; rintro e w1 ⟨v1, rfl, H1⟩; obtain ⟨a1, k1, rfl, _⟩ := row_get H1.out.1; rw [hzl]))
    go_ret
    have hA := H1.out.2
    exact ⟨rfl, ⟨hb, y, G, HP.out.adds hA, HY.out⟩, OD, HD.out.adds hA, hA.mono (fun _ _ c => c.elim), fun k c => .inl c⟩
end Go.Proofs.YtjbdchgadfhffaaGreatDoor

/- The pool's calls Open and Count; pools that are nil, or that no call made. -/
namespace Go.Proofs.YtjbdchgadfhffaaGreatDoor
open Go.RowKit

namespace F
def openOk (D : dSt) (fr ct mo : Int) : Bool := decide (0 ≤ fr ∧ 1 ≤ ct ∧ ct ≤ 4096 ∧ fr + ct ≤ D.size ∧ 1 ≤ mo ∧ mo ≤ 256)
end F
set_option maxRecDepth 100000 in
set_option maxHeartbeats 400000 in
theorem bopen_un (d : Value) (fr ct mo : Int) (w : World) (hu : Unmade w d) : Calls Tryz.prog 20 #[d, .int .i64 fr, .int .i64 ct, .int .i64 mo] w (Tells (.tuple #[.pointer none, .int .i64 1]) w) := by
  have H := hid (size_un d w hu)
  go_enter Tryz.func20, Tryz.ntmps20
  go_wp2_with (go_at_call 54; refine H.out.mono ?_; rintro e _ ⟨rfl, hw⟩; rw [hw]; clear hw)
  go_ret2
  exact ⟨rfl, rfl⟩
set_option maxRecDepth 100000 in
set_option maxHeartbeats 1000000 in
theorem bopen_bad {w : World} {OD : Nat → Prop} {dp : Nat} {D : dSt} {k : Nat} (hd : IsDO w OD dp D) (hk : DOk D k) (hsz : D.size ≤ 4096) (fr ct mo : Int) (hf : fr ≤ 9223372036854775807) (hb : F.openOk D fr ct mo = false) : Calls Tryz.prog 20 #[Ptr dp, .int .i64 fr, .int .i64 ct, .int .i64 mo] w (Tells (.tuple #[.pointer none, .int .i64 2]) w) := by
  have H := hid (dsize_any hd hk)
  have h0 : ¬ D.size = 0 := by have := hk.size; omega
  have h0' : (D.size == 0) = false := by simpa using h0
  have hs := hk.size
  have hb' : ¬ (0 ≤ fr ∧ 1 ≤ ct ∧ ct ≤ 4096 ∧ fr + ct ≤ D.size ∧ 1 ≤ mo ∧ mo ≤ 256) := by simpa [F.openOk] using hb
  unfold Ptr at *
  clear hd hk hb
  by_cases h1 : fr < 0
  · clear hb'
    go_enter Tryz.func20, Tryz.ntmps20
    go_wp2_with (go_at_call 54; refine H.out.mono ?_; rintro e _ ⟨rfl, hw⟩; rw [hw]; clear hw)
    go_ret2
    exact ⟨rfl, rfl⟩
  have hw : wrap64 (D.size - fr) = D.size - fr := by simp [wrap64]; omega
  by_cases h2 : ct < 1
  · clear hb'
    go_enter Tryz.func20, Tryz.ntmps20
    go_wp2_with (go_at_call 54; refine H.out.mono ?_; rintro e _ ⟨rfl, hw⟩; rw [hw]; clear hw)
    go_ret2
    exact ⟨rfl, rfl⟩
  by_cases h3 : 4096 < ct
  · clear hb'
    go_enter Tryz.func20, Tryz.ntmps20
    go_wp2_with (go_at_call 54; refine H.out.mono ?_; rintro e _ ⟨rfl, hw⟩; rw [hw]; clear hw)
    go_ret2
    exact ⟨rfl, rfl⟩
  by_cases h4 : D.size - fr < ct
  · clear hb'
    go_enter Tryz.func20, Tryz.ntmps20
    go_wp2_with (go_at_call 54; refine H.out.mono ?_; rintro e _ ⟨rfl, hw⟩; rw [hw]; clear hw)
    go_ret2
    exact ⟨rfl, rfl⟩
  by_cases h5 : mo < 1
  · clear hb'
    go_enter Tryz.func20, Tryz.ntmps20
    go_wp2_with (go_at_call 54; refine H.out.mono ?_; rintro e _ ⟨rfl, hw⟩; rw [hw]; clear hw)
    go_ret2
    exact ⟨rfl, rfl⟩
  have h6 : 256 < mo := by omega
  clear hb'
  go_enter Tryz.func20, Tryz.ntmps20
  go_wp2_with (go_at_call 54; refine H.out.mono ?_; rintro e _ ⟨rfl, hw⟩; rw [hw]; clear hw)
  go_ret2
  exact ⟨rfl, rfl⟩
/-- What Open makes. -/
def POpn (w : World) (dp : Nat) (s : F.Po) (e : Ending) (w' : World) : Prop := ∃ p, e = .returned (.tuple #[Ptr p, .int .i64 0]) ∧ Hid (IsPool w' (fun k => w.heap.size ≤ k ∧ k < w'.heap.size) p dp s 0 ∧ Adds w w')
set_option maxRecDepth 100000 in
set_option maxHeartbeats 1000000 in
theorem bopen_ok {w : World} {OD : Nat → Prop} {dp : Nat} {D : dSt} {k : Nat} (hd : IsDO w OD dp D) (hk : DOk D k) (hsz : D.size ≤ 4096) (fr ct mo : Int) (hb : F.openOk D fr ct mo = true) : Calls Tryz.prog 20 #[Ptr dp, .int .i64 fr, .int .i64 ct, .int .i64 mo] w (POpn w dp ⟨fr, ct, mo, []⟩) := by
  have H := hid (dsize_any hd hk)
  have h0 : ¬ D.size = 0 := by have := hk.size; omega
  have h0' : (D.size == 0) = false := by simpa using h0
  have hs := hk.size
  have hb' : 0 ≤ fr ∧ 1 ≤ ct ∧ ct ≤ 4096 ∧ fr + ct ≤ D.size ∧ 1 ≤ mo ∧ mo ≤ 256 := by simpa [F.openOk] using hb
  have h1 : ¬ fr < 0 := by omega
  have h2 : ¬ ct < 1 := by omega
  have h3 : ¬ 4096 < ct := by omega
  have h4 : ¬ D.size - fr < ct := by omega
  have h5 : ¬ mo < 1 := by omega
  have h6 : ¬ 256 < mo := by omega
  have hw : wrap64 (D.size - fr) = D.size - fr := by simp [wrap64]; omega
  have hmm := @run_makeMap Tryz.prog
  unfold Ptr at *
  clear hd hk hb hb'
  go_enter Tryz.func20, Tryz.ntmps20
  go_wp2_with (go_at_call 54; refine H.out.mono ?_; rintro e _ ⟨rfl, hw⟩; rw [hw]; clear hw)
  go_ret2
  refine ⟨_, rfl, ⟨w.heap.size, 0, [], ⟨heap_alloc2_new w _ _, ⟨#[], 0, heap_alloc2_old w _ _, MapP.nil⟩, rfl, fun t ht => (by cases ht), List.nodup_nil, List.Pairwise.nil, fun t ht => (by cases ht), Int.le_refl _, ⟨by omega, by simp⟩, ⟨Nat.le_refl _, by simp; omega⟩⟩, Int.le_refl _⟩, ((Touch.refl _ w).alloc _).alloc _⟩
set_option maxRecDepth 100000 in
set_option maxHeartbeats 400000 in
theorem bcount_any {w : World} {O : Nat → Prop} {p dp : Nat} {s : F.Po} {n : Nat} (h : IsPool w O p dp s n) : Calls Tryz.prog 38 #[Ptr p] w (Tells (.int .i64 s.ct) w) := by
  obtain ⟨hb, y, G, h, _⟩ := h
  have HM := hid (bmade_yes w p dp (cellOf h.box 0))
  have c2 : w.cell? ⟨p, 2, none⟩ = some (.int .i64 s.ct) := cellOf h.box 2
  unfold Ptr at *
  clear h
  go_enter Tryz.func38, Tryz.ntmps38
  go_wp2_with (go_at_call 49; refine HM.out.mono ?_; rintro e _ ⟨rfl, hw⟩; rw [hw]; clear hw)
  go_ret
  exact ⟨rfl, rfl⟩
set_option maxRecDepth 100000 in
set_option maxHeartbeats 400000 in
theorem count_un (x : Value) (w : World) (hu : Unpool w x) : Calls Tryz.prog 38 #[x] w (Tells (.int .i64 0) w) := by
  go_enter Tryz.func38, Tryz.ntmps38
  go_wp2_with (go_at_call 49; refine (show Calls Tryz.prog 49 #[x] w _ from hu).mono ?_; rintro e _ ⟨rfl, hw⟩; rw [hw]; clear hw)
  go_ret
  exact ⟨rfl, rfl⟩
set_option maxRecDepth 100000 in
set_option maxHeartbeats 400000 in
theorem flush_un (x : Value) (w : World) (hu : Unpool w x) : Calls Tryz.prog 16 #[x] w (Tells (.int .i64 1) w) := by
  go_enter Tryz.func16, Tryz.ntmps16
  go_wp2_with (go_at_call 49; refine (show Calls Tryz.prog 49 #[x] w _ from hu).mono ?_; rintro e _ ⟨rfl, hw⟩; rw [hw]; clear hw)
  go_ret
  exact ⟨rfl, rfl⟩
set_option maxRecDepth 100000 in
set_option maxHeartbeats 400000 in
theorem get_un (x : Value) (no : Int) (w : World) (hu : Unpool w x) : Calls Tryz.prog 14 #[x, .int .i64 no] w (Tells (.tuple #[.slice none 0 0, .int .i64 1]) w) := by
  have HA := hid (basked_un x no w hu)
  go_enter Tryz.func14, Tryz.ntmps14
  go_wp2_with (go_at_call 41; refine HA.out.mono ?_; rintro e _ ⟨rfl, hw⟩; rw [hw]; clear hw)
  go_ret2
  exact ⟨rfl, rfl⟩
set_option maxRecDepth 100000 in
set_option maxHeartbeats 400000 in
theorem put_un (x : Value) (no : Int) (b : Value) (w : World) (hu : Unpool w x) : Calls Tryz.prog 12 #[x, .int .i64 no, b] w (Tells (.int .i64 1) w) := by
  have HA := hid (basked_un x no w hu)
  go_enter Tryz.func12, Tryz.ntmps12
  go_wp2_with (go_at_call 41; refine HA.out.mono ?_; rintro e _ ⟨rfl, hw⟩; rw [hw]; clear hw)
  go_ret
  exact ⟨rfl, rfl⟩
set_option maxRecDepth 100000 in
set_option maxHeartbeats 400000 in
theorem which_un (x f : Value) (w : World) (hu : Unpool w x) : Calls Tryz.prog 52 #[x, f] w (Tells (.slice none 0 0) w) := by
  go_enter Tryz.func52, Tryz.ntmps52
  go_wp2_with (go_at_call 49; refine (show Calls Tryz.prog 49 #[x] w _ from hu).mono ?_; rintro e _ ⟨rfl, hw⟩; rw [hw]; clear hw)
  go_ret
  exact ⟨rfl, rfl⟩
set_option maxRecDepth 100000 in
set_option maxHeartbeats 400000 in
theorem fresh_un (x : Value) (w : World) (hu : Unpool w x) : Calls Tryz.prog 35 #[x] w (Tells (.slice none 0 0) w) := by
  have H := hid (which_un x (.func (.func 67) #[] #[]) w hu)
  go_enter Tryz.func35, Tryz.ntmps35
  go_wp2_with (go_at_call 52; refine H.out.mono ?_; rintro e _ ⟨rfl, hw⟩; rw [hw]; clear hw)
  go_ret
  exact ⟨rfl, rfl⟩
set_option maxRecDepth 100000 in
set_option maxHeartbeats 400000 in
theorem dirty_un (x : Value) (w : World) (hu : Unpool w x) : Calls Tryz.prog 37 #[x] w (Tells (.slice none 0 0) w) := by
  have H := hid (which_un x (.func (.func 68) #[] #[]) w hu)
  go_enter Tryz.func37, Tryz.ntmps37
  go_wp2_with (go_at_call 52; refine H.out.mono ?_; rintro e _ ⟨rfl, hw⟩; rw [hw]; clear hw)
  go_ret
  exact ⟨rfl, rfl⟩
set_option maxRecDepth 100000 in
set_option maxHeartbeats 400000 in
theorem held_un (x : Value) (w : World) (hu : Unpool w x) : Calls Tryz.prog 19 #[x] w (Tells (.slice none 0 0) w) := by
  have H := hid (which_un x (.func (.func 53) #[] #[]) w hu)
  go_enter Tryz.func19, Tryz.ntmps19
  go_wp2_with (go_at_call 52; refine H.out.mono ?_; rintro e _ ⟨rfl, hw⟩; rw [hw]; clear hw)
  go_ret
  exact ⟨rfl, rfl⟩
set_option maxRecDepth 100000 in
set_option maxHeartbeats 400000 in
theorem accept_un (x : Value) (w : World) (hu : Unpool w x) : Calls Tryz.prog 15 #[x] w (Tells (.int .i64 0) w) := by
  have H := hid (fresh_un x w hu)
  go_enter Tryz.func15, Tryz.ntmps15
  go_wp2_with (go_at_call 35; refine H.out.mono ?_; rintro e _ ⟨rfl, hw⟩; rw [hw]; clear hw)
  go_loopw [11] (fun iv wr => iv = .int .i64 0 ∧ wr = w) (fun _ _ => 0)
  case atStart => exact ⟨rfl, rfl⟩
  case round =>
    obtain ⟨rfl, hw⟩ := hrel
    rw [hw]
    go_wp2_with fail
    go_ret
    exact ⟨rfl, rfl⟩
set_option maxRecDepth 100000 in
set_option maxHeartbeats 400000 in
theorem drop_un (x : Value) (w : World) (hu : Unpool w x) : Calls Tryz.prog 26 #[x] w (Tells (.int .i64 0) w) := by
  have H := hid (fresh_un x w hu)
  go_enter Tryz.func26, Tryz.ntmps26
  go_wp2_with (go_at_call 35; refine H.out.mono ?_; rintro e _ ⟨rfl, hw⟩; rw [hw]; clear hw)
  go_loopw [11] (fun iv wr => iv = .int .i64 0 ∧ wr = w) (fun _ _ => 0)
  case atStart => exact ⟨rfl, rfl⟩
  case round =>
    obtain ⟨rfl, hw⟩ := hrel
    rw [hw]
    go_wp2_with fail
    go_ret
    exact ⟨rfl, rfl⟩
end Go.Proofs.YtjbdchgadfhffaaGreatDoor
