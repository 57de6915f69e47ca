/- Texts put together: FAcc2, FWrite, FFlush, FOpen. -/
import Derived.Test.YtokbiekdompaoaaDoorQ28
/- The pool's call Accept. -/
namespace Go.Proofs.YtokbiekdompaoaaDoor
open Go.RowKit

set_option maxRecDepth 100000 in
theorem take_next' {zs : List Int} {i : Nat} (hi : i < zs.length) : zs.take (i + 1) = zs.take i ++ [zs[i]] := by simp
set_option maxRecDepth 100000 in
/-- The frame of a page that is not among those that were changed. -/
theorem upd_new {w : World} {O : Nat → Prop} {p dp : Nat} {s : F.Po} {g : F.Fr → F.Fr} {ns : List Int} {hb : Nat} {y : Int} {G : List Tk} (h : PoolAt w O p dp (F.updS s g ns) hb y G) {m : F.Fr → Bool} {z : Int} (hz : z ∈ F.which s m) (hn : ¬ z ∈ ns) :
    ∃ t ∈ G, t.f.no = z ∧ lk (G.map Tk.pr) z = .pointer (some ⟨t.b, 0, none⟩) ∧ t.f ∈ s.L ∧ m t.f = true := by
  obtain ⟨f, hf, hm, hno⟩ := F.mem_which.1 hz
  have hin : (if ns.contains f.no then g f else f) ∈ (F.updS s g ns).L := List.mem_map.2 ⟨f, hf, rfl⟩
  rw [if_neg (by simpa [hno] using hn), h.L] at hin
  obtain ⟨t, ht, e⟩ := List.mem_map.1 hin
  have hn' : t.f.no = z := by rw [e, hno]
  refine ⟨t, ht, hn', ?_, by rw [e]; exact hf, by rw [e]; exact hm⟩
  rw [← hn']; exact lk_some h.mp.once (List.mem_map_of_mem (f := Tk.pr) ht)
set_option maxRecDepth 100000 in
theorem which_nodup {w : World} {O : Nat → Prop} {p dp : Nat} {s : F.Po} {hb : Nat} {y : Int} {G : List Tk} (h : PoolAt w O p dp s hb y G) (m : F.Fr → Bool) : (F.which s m).Nodup := by
  unfold F.which
  rw [(rise_perm _).nodup_iff]
  have := h.once
  have e : (s.L.map (·.no)) = G.map (fun t => t.f.no) := by rw [h.L, List.map_map]; rfl
  rw [← e] at this
  exact this.sublist (List.filter_sublist.map _)
set_option maxRecDepth 100000 in
theorem not_take {zs : List Int} (hn : zs.Nodup) {i : Nat} (hi : i < zs.length) : ¬ zs[i] ∈ zs.take i := by
  intro c
  obtain ⟨j, hj, e⟩ := List.mem_iff_getElem.1 c
  rw [List.length_take] at hj
  rw [List.getElem_take] at e
  have := (List.getElem_inj hn).1 e
  omega
/-- What is left on the way through a list of pages. -/
structure Way (w wr : World) (O : Nat → Prop) (p dp : Nat) (s : F.Po) (g : F.Fr → F.Fr) (hb : Nat) (y : Int) (zs : List Int) (v : Value) (i : Nat) : Prop where
  pool : ∃ G, PoolAt wr O p dp (F.updS s g (zs.take i)) hb y G
  row : wr.ownsRow w.heap.size 3 1 v zs.length (I zs)
  touch : Touch O w wr
set_option maxRecDepth 100000 in
set_option maxHeartbeats 4000000 in
theorem baccept_any {w : World} {O : Nat → Prop} {p dp : Nat} {s : F.Po} {n : Nat} (h : IsPool w O p dp s n) (hO : ∀ k, O k → k < w.heap.size) (hlen : s.L.length ≤ 10000) : Calls Tryd.prog 19 #[Ptr p] w (PPut w O p dp (F.accS s) n ((F.which s F.isFresh).length : Int)) := by
  have HF := hid (bfresh_any h hlen)
  obtain ⟨hb, y, G, h, hy⟩ := h
  obtain ⟨zs, hzs⟩ : ∃ zs, zs = F.which s F.isFresh := ⟨_, rfl⟩
  rw [← hzs] at HF ⊢
  have HZ := hid hzs
  have HN := hid (show zs.Nodup by rw [hzs]; exact which_nodup h _)
  have HP := hid h
  have HY := hid hy
  have HO := hid hO
  have HS := hid (show F.updS s F.acc zs = F.accS s by
    rw [hzs]
    exact F.updS_all (fun f hf => by unfold F.isFresh at hf; unfold F.acc; rw [hf]; rfl))
  have hlz : zs.length ≤ 10000 := by
    have : zs.length = ((s.L.filter F.isFresh).map (·.no)).length := by rw [hzs]; exact length_rise _
    rw [this, List.length_map]
    exact Nat.le_trans (List.length_filter_le _ _) hlen
  unfold Ptr at *
  clear h hlen hzs hO hy
  go_enter Tryd.func19, Tryd.ntmps19
  go_upto_region 2 with (go_at_call 32; refine HF.out.mono ?_; rintro e w1 ⟨v1, rfl, H1⟩)
  obtain ⟨a1, k1, rfl, hget⟩ := row_get H1.out.1
  have HW : Hid (Way w w1 O p dp s F.acc hb y zs (.slice a1 zs.length k1) 0) := ⟨⟨G, by rw [List.take_zero, F.updS_nil]; exact HP.out.adds H1.out.2⟩, H1.out.1, H1.out.2.mono (fun _ _ c => c.elim)⟩
  clear hget
  generalize hzl : zs.length = zl at *
  have HZL := hid hzl
  clear hzl
  go_wp2_with fail
  go_loopw [11] (fun iv wr => ∃ i : Nat, iv = .int .i64 (i : Int) ∧ i ≤ zl ∧ Hid (Way w wr O p dp s F.acc hb y zs (.slice a1 zl k1) i)) (fun iv _ => zl - (intOf iv).toNat)
  case atStart => exact ⟨0, rfl, Nat.zero_le _, HW.out⟩
  case round =>
    obtain ⟨i, rfl, hi, HI⟩ := hrel
    by_cases hlt : i < zl
    · have hltz : (i : Int) < (zl : Int) := by omega
      have hlt' : i < zs.length := by rw [HZL.out]; exact hlt
      obtain ⟨G1, hG1⟩ := HI.out.pool
      have hrow := HI.out.row
      obtain ⟨a2, k2, e2, hget⟩ := row_get hrow
      obtain ⟨b, o, ea, hbo, hc⟩ := hget i hlt'
      rw [HZL.out] at e2
      cases e2
      subst ea
      obtain ⟨t, htG, htn, hlk, htL, htm⟩ := upd_new hG1 (m := F.isFresh) (z := zs[i]) (by rw [← HZ.out]; exact List.getElem_mem hlt') (not_take HN.out hlt')
      have c4 : wr.cell? ⟨p, 4, none⟩ = some (.map (some hb)) := cellOf hG1.box 4
      have HMP := hid hG1.mp
      have HLK := hid hlk
      obtain ⟨tg, tof, tc, htb, _⟩ := (hG1.at' t htG).now
      have e1 : wr.cell? ⟨t.b, 1, none⟩ = some (.int .i64 (F.st t.f)) := cellOf htb 1
      have e3 : wr.cell? ⟨t.b, 3, none⟩ = some t.wp := cellOf htb 3
      have f1 : wr.frozen? ⟨t.b, 1, none⟩ = false := frozen_of_row wr t.b 1 _ 79 htb
      have f3 : wr.frozen? ⟨t.b, 3, none⟩ = false := frozen_of_row wr t.b 3 _ 79 htb
      have HG1 := hid (And.intro hG1 (And.intro htG (And.intro htn htm)))
      obtain ⟨z, hz⟩ : ∃ z, z = zs[i] := ⟨_, rfl⟩
      rw [← hz] at hc HLK HG1
      have HZI := hid hz
      clear hG1 htG htn hlk htL htm htb hget hrow hz hbo
      go_wp2_with (first
        | (at_lookup; refine wpList_lookup_p rfl _ _ 42 rfl 3 76 Tryd.underlying42 Tryd.underlying3 zeroPF hb rfl HMP.out _ rfl ?_; rw [HLK.out])
        | go_in)
      go_roundw
      case rel =>
        obtain ⟨q1, q2⟩ := PoolAt.accept (w' := (wr.setCell ⟨t.b, 1, none⟩ (.int .i64 1)).setCell ⟨t.b, 3, none⟩ (.slice none 0 0)) HG1.out.1 HG1.out.2.1 HG1.out.2.2.2 rfl
        have hOb : O t.b := (HG1.out.1.at' t HG1.out.2.1).now.own
        refine ⟨i + 1, by go_num, by omega, ?_, row_keep HI.out.row q2 (fun k hk e => ?_), HI.out.touch.trans (q2.mono (fun k _ e => by rw [e]; exact hOb))⟩
        · rw [take_next' (by rw [HZL.out]; exact hlt), ← F.updS_more F.acc_no F.acc_acc]
          have := HZI.out
          rw [HG1.out.2.2.1] at q1
          rw [this] at q1
          exact ⟨_, q1⟩
        · have h1 := (row_low HI.out.row hk).1
          have h2 := HO.out _ hOb
          rw [e] at h1
          omega
      case measure => simp [intOf]; omega
    · have hltz : ¬ (i : Int) < (zl : Int) := by omega
      obtain rfl : i = zl := by omega
      go_wp2_with fail
      go_ret
      obtain ⟨G1, hG1⟩ := HI.out.pool
      rw [← HZL.out, List.take_length, HS.out] at hG1
      exact ⟨rfl, O, ⟨hb, y, G1, hG1, HY.out⟩, HI.out.touch, fun k hk => .inl hk⟩
end Go.Proofs.YtokbiekdompaoaaDoor

/- Pages are laid down on the disk. -/
namespace Go.Proofs.YtokbiekdompaoaaDoor
open Go.RowKit

namespace F
/-- What holds of each state of a pool. -/
structure Good (s : Po) : Prop where
  nos : ∀ f ∈ s.L, 0 ≤ f.no ∧ f.no < s.ct
  pgs : ∀ f ∈ s.L, ∃ q, M.readP f.now = some q ∧ (q.no : Int) = f.no
  was : ∀ f ∈ s.L, f.fresh = true → f.dirty = true → ∃ q, M.readP f.was = some q ∧ (q.no : Int) = f.no
  len : (s.L.length : Int) ≤ s.mo
  nd : (s.L.map (·.no)).Nodup
/-- The writes of a Flush. -/
def wrs (s : Po) (zs : List Int) (i : Nat) : Int × List UInt8 := (s.fr + zs.getD i 0, flD s (zs.getD i 0))
end F
set_option maxRecDepth 100000 in
theorem sealP_some {bs : List UInt8} {q : M.Pg} (h : M.readP bs = some q) : M.sealP bs = sealed (bs.take 252) := by unfold M.sealP; rw [h]
/-- On the way through the writes. -/
structure WWay (w wr : World) (O OD : Nat → Prop) (p dp : Nat) (s : F.Po) (hb : Nat) (y : Int) (G : List Tk) (zs : List Int) (D0 : dSt) (k0 i : Nat) : Prop where
  pool : PoolAt wr O p dp s hb y G
  disk : ∃ D' O', IsDO wr O' dp D' ∧ (∀ k, O' k → OD k ∨ (w.heap.size ≤ k ∧ k < wr.heap.size)) ∧ DOk D' (k0 + i) ∧ D'.size = D0.size ∧ goW (F.wrs s zs) (zs.length - i) i D' = goW (F.wrs s zs) zs.length 0 D0
  touch : Touch OD w wr
/-- What write leaves. -/
def PWrt (w : World) (OD : Nat → Prop) (dp : Nat) (x : Int × dSt) (e : Ending) (w' : World) : Prop := e = .returned (.int .i64 x.1) ∧ Hid (∃ O', IsDO w' O' dp x.2 ∧ Touch OD w w' ∧ ∀ k, O' k → OD k ∨ (w.heap.size ≤ k ∧ k < w'.heap.size))
end Go.Proofs.YtokbiekdompaoaaDoor

/- The pool's call Flush. -/
namespace Go.Proofs.YtokbiekdompaoaaDoor
open Go.RowKit

namespace F
/-- A frame that was written. -/
def cln (f : Fr) : Fr := if f.fresh then f else { f with dirty := false }
set_option maxRecDepth 100000 in
theorem cln_no (f : Fr) : (cln f).no = f.no := by unfold cln; split <;> rfl
set_option maxRecDepth 100000 in
theorem cln_cln (f : Fr) : cln (cln f) = cln f := by
  unfold cln
  cases h : f.fresh <;> simp [h]
/-- Flush: the answer and the disk; the state behind it. -/
def flX (s : Po) (D : dSt) : Int × dSt := if which s isFresh = [] then (if which s isDirty = [] then (0, D) else goW (wrs s (which s isDirty)) (which s isDirty).length 0 D) else (42, D)
def flS (s : Po) (D : dSt) : Po := if (flX s D).1 = 0 then { s with L := s.L.map cln } else s
set_option maxRecDepth 100000 in
theorem which_nil {s : Po} {m : Fr → Bool} (h : which s m = []) : ∀ f ∈ s.L, m f = false := by
  intro f hf
  cases hm : m f
  · rfl
  · have := mem_which.2 ⟨f, hf, hm, rfl⟩
    rw [h] at this
    cases this
end F
def Tk.cln (t : Tk) : Tk := { t with f := F.cln t.f }
set_option maxRecDepth 100000 in
theorem Tk.cln_is (u : Tk) : u.cln.b = u.b ∧ u.cln.age = u.age ∧ u.cln.f = F.cln u.f ∧ (F.cln u.f).no = u.f.no ∧ u.cln.bl.Sublist u.bl := by
  exact ⟨rfl, rfl, rfl, F.cln_no _, List.Sublist.refl _⟩
set_option maxRecDepth 100000 in
theorem PoolAt.clean {w w' : World} {O : Nat → Prop} {p dp : Nat} {s : F.Po} {hb : Nat} {y : Int} {G : List Tk} (h : PoolAt w O p dp s hb y G) {t : Tk} (ht : t ∈ G) (hf : t.f.fresh = false) (hw : w' = w.setCell ⟨t.b, 1, none⟩ (.int .i64 0)) :
    PoolAt w' O p dp { s with L := s.L.map fun f => if f.no = t.f.no then F.cln f else f } hb y (G.map fun u => if u.f.no = t.f.no then u.cln else u) ∧ Touch (fun k => k = t.b) w w' := by
  have hT : Touch (fun k => k = t.b) w w' := by rw [hw]; exact Touch.setCell (T := fun k => k = t.b) (Touch.refl _ w) (p := ⟨t.b, 1, none⟩) (fun _ => rfl) _
  refine ⟨h.upd ht Tk.cln F.cln Tk.cln_is hT ⟨?_, ?_⟩, hT⟩
  · obtain ⟨g, o, c, h1, h2, h3, h4, h5, h6⟩ := (h.at' t ht).now
    have e1 : F.st t.cln.f = 0 := by show F.st (F.cln t.f) = 0; unfold F.cln F.st; rw [hf]; simp
    have e2 : t.cln.wp = t.wp := by
      show (if (F.cln t.f).fresh && (F.cln t.f).dirty then _ else _) = (if t.f.fresh && t.f.dirty then _ else _)
      unfold F.cln; rw [hf]; simp
    have e3 : t.cln.f.now = t.f.now := by show (F.cln t.f).now = _; unfold F.cln; rw [hf]; rfl
    rw [e1, e2, e3]
    refine ⟨g, o, c, ?_, h2, h3, h4, h5, h6.block (fun b' o' e hb => by cases e; exact hT.block _ hb (FrAt.ne h1 h6 h5 t.wp_no))⟩
    rw [hw]
    exact heap_setCell_same w t.b 1 _ 79 _ h1
  · intro e
    have : t.cln.both = false := by show ((F.cln t.f).fresh && (F.cln t.f).dirty) = false; unfold F.cln; rw [hf]; simp
    rw [this] at e
    cases e
/-- What Flush leaves. -/
def PFl (w : World) (O OD : Nat → Prop) (p dp : Nat) (s : F.Po) (n : Nat) (z : Int) (D : dSt) (e : Ending) (w' : World) : Prop := e = .returned (.int .i64 z) ∧ Hid (IsPool w' O p dp s n ∧ ∃ O', IsDO w' O' dp D ∧ Touch (fun k => O k ∨ OD k) w w' ∧ ∀ k, O' k → OD k ∨ (w.heap.size ≤ k ∧ k < w'.heap.size))
/-- On the way through what is clean. -/
structure CWay (w wr : World) (O OD : Nat → Prop) (p dp : Nat) (s : F.Po) (hb : Nat) (y : Int) (zs : List Int) (v : Value) (B : Nat) (D : dSt) (i : Nat) : Prop where
  pool : ∃ G, PoolAt wr O p dp (F.updS s F.cln (zs.take i)) hb y G
  row : wr.ownsRow B 3 1 v zs.length (I zs)
  disk : ∃ O', IsDO wr O' dp D ∧ ∀ k, O' k → OD k ∨ (w.heap.size ≤ k ∧ k < wr.heap.size)
  touch : Touch (fun k => O k ∨ OD k) w wr
end Go.Proofs.YtokbiekdompaoaaDoor

/- The pool's calls Open and Count; pools that are nil, or that no call made. -/
namespace Go.Proofs.YtokbiekdompaoaaDoor
open Go.RowKit

namespace F
def openOk (D : dSt) (fr ct mo : Int) : Bool := decide (0 ≤ fr ∧ 1 ≤ ct ∧ ct ≤ 4096 ∧ fr + ct ≤ D.size ∧ 1 ≤ mo ∧ mo ≤ 256)
end F
set_option maxRecDepth 100000 in
set_option maxHeartbeats 400000 in
theorem bopen_un (d : Value) (fr ct mo : Int) (w : World) (hu : Unmade w d) : Calls Tryd.prog 8 #[d, .int .i64 fr, .int .i64 ct, .int .i64 mo] w (Tells (.tuple #[.pointer none, .int .i64 1]) w) := by
  have H := hid (size_un d w hu)
  go_enter Tryd.func8, Tryd.ntmps8
  go_wp2_with (go_at_call 21; refine H.out.mono ?_; rintro e _ ⟨rfl, hw⟩; rw [hw]; clear hw)
  go_ret2
  exact ⟨rfl, rfl⟩
set_option maxRecDepth 100000 in
set_option maxHeartbeats 1000000 in
theorem bopen_bad {w : World} {OD : Nat → Prop} {dp : Nat} {D : dSt} {k : Nat} (hd : IsDO w OD dp D) (hk : DOk D k) (hsz : D.size ≤ 4096) (fr ct mo : Int) (hf : fr ≤ 9223372036854775807) (hb : F.openOk D fr ct mo = false) : Calls Tryd.prog 8 #[Ptr dp, .int .i64 fr, .int .i64 ct, .int .i64 mo] w (Tells (.tuple #[.pointer none, .int .i64 2]) w) := by
  have H := hid (dsize_any hd hk)
  have h0 : ¬ D.size = 0 := by have := hk.size; omega
  have h0' : (D.size == 0) = false := by simpa using h0
  have hs := hk.size
  have hb' : ¬ (0 ≤ fr ∧ 1 ≤ ct ∧ ct ≤ 4096 ∧ fr + ct ≤ D.size ∧ 1 ≤ mo ∧ mo ≤ 256) := by simpa [F.openOk] using hb
  unfold Ptr at *
  clear hd hk hb
  by_cases h1 : fr < 0
  · clear hb'
    go_enter Tryd.func8, Tryd.ntmps8
    go_wp2_with (go_at_call 21; refine H.out.mono ?_; rintro e _ ⟨rfl, hw⟩; rw [hw]; clear hw)
    go_ret2
    exact ⟨rfl, rfl⟩
  have hw : wrap64 (D.size - fr) = D.size - fr := by simp [wrap64]; omega
  by_cases h2 : ct < 1
  · clear hb'
    go_enter Tryd.func8, Tryd.ntmps8
    go_wp2_with (go_at_call 21; refine H.out.mono ?_; rintro e _ ⟨rfl, hw⟩; rw [hw]; clear hw)
    go_ret2
    exact ⟨rfl, rfl⟩
  by_cases h3 : 4096 < ct
  · clear hb'
    go_enter Tryd.func8, Tryd.ntmps8
    go_wp2_with (go_at_call 21; refine H.out.mono ?_; rintro e _ ⟨rfl, hw⟩; rw [hw]; clear hw)
    go_ret2
    exact ⟨rfl, rfl⟩
  by_cases h4 : D.size - fr < ct
  · clear hb'
    go_enter Tryd.func8, Tryd.ntmps8
    go_wp2_with (go_at_call 21; refine H.out.mono ?_; rintro e _ ⟨rfl, hw⟩; rw [hw]; clear hw)
    go_ret2
    exact ⟨rfl, rfl⟩
  by_cases h5 : mo < 1
  · clear hb'
    go_enter Tryd.func8, Tryd.ntmps8
    go_wp2_with (go_at_call 21; refine H.out.mono ?_; rintro e _ ⟨rfl, hw⟩; rw [hw]; clear hw)
    go_ret2
    exact ⟨rfl, rfl⟩
  have h6 : 256 < mo := by omega
  clear hb'
  go_enter Tryd.func8, Tryd.ntmps8
  go_wp2_with (go_at_call 21; refine H.out.mono ?_; rintro e _ ⟨rfl, hw⟩; rw [hw]; clear hw)
  go_ret2
  exact ⟨rfl, rfl⟩
/-- What Open makes. -/
def POpn (w : World) (dp : Nat) (s : F.Po) (e : Ending) (w' : World) : Prop := ∃ p, e = .returned (.tuple #[Ptr p, .int .i64 0]) ∧ Hid (IsPool w' (fun k => w.heap.size ≤ k ∧ k < w'.heap.size) p dp s 0 ∧ Adds w w')
set_option maxRecDepth 100000 in
set_option maxHeartbeats 1000000 in
theorem bopen_ok {w : World} {OD : Nat → Prop} {dp : Nat} {D : dSt} {k : Nat} (hd : IsDO w OD dp D) (hk : DOk D k) (hsz : D.size ≤ 4096) (fr ct mo : Int) (hb : F.openOk D fr ct mo = true) : Calls Tryd.prog 8 #[Ptr dp, .int .i64 fr, .int .i64 ct, .int .i64 mo] w (POpn w dp ⟨fr, ct, mo, []⟩) := by
  have H := hid (dsize_any hd hk)
  have h0 : ¬ D.size = 0 := by have := hk.size; omega
  have h0' : (D.size == 0) = false := by simpa using h0
  have hs := hk.size
  have hb' : 0 ≤ fr ∧ 1 ≤ ct ∧ ct ≤ 4096 ∧ fr + ct ≤ D.size ∧ 1 ≤ mo ∧ mo ≤ 256 := by simpa [F.openOk] using hb
  have h1 : ¬ fr < 0 := by omega
  have h2 : ¬ ct < 1 := by omega
  have h3 : ¬ 4096 < ct := by omega
  have h4 : ¬ D.size - fr < ct := by omega
  have h5 : ¬ mo < 1 := by omega
  have h6 : ¬ 256 < mo := by omega
  have hw : wrap64 (D.size - fr) = D.size - fr := by simp [wrap64]; omega
  have hmm := @run_makeMap Tryd.prog
  unfold Ptr at *
  clear hd hk hb hb'
  go_enter Tryd.func8, Tryd.ntmps8
  go_wp2_with (go_at_call 21; refine H.out.mono ?_; rintro e _ ⟨rfl, hw⟩; rw [hw]; clear hw)
  go_ret2
  refine ⟨_, rfl, ⟨w.heap.size, 0, [], ⟨heap_alloc2_new w _ _, ⟨#[], 0, heap_alloc2_old w _ _, MapP.nil⟩, rfl, fun t ht => (by cases ht), List.nodup_nil, List.Pairwise.nil, fun t ht => (by cases ht), Int.le_refl _, ⟨by omega, by simp⟩, ⟨Nat.le_refl _, by simp; omega⟩⟩, Int.le_refl _⟩, ((Touch.refl _ w).alloc _).alloc _⟩
set_option maxRecDepth 100000 in
set_option maxHeartbeats 400000 in
theorem bcount_any {w : World} {O : Nat → Prop} {p dp : Nat} {s : F.Po} {n : Nat} (h : IsPool w O p dp s n) : Calls Tryd.prog 26 #[Ptr p] w (Tells (.int .i64 s.ct) w) := by
  obtain ⟨hb, y, G, h, _⟩ := h
  have HM := hid (bmade_yes w p dp (cellOf h.box 0))
  have c2 : w.cell? ⟨p, 2, none⟩ = some (.int .i64 s.ct) := cellOf h.box 2
  unfold Ptr at *
  clear h
  go_enter Tryd.func26, Tryd.ntmps26
  go_wp2_with (go_at_call 37; refine HM.out.mono ?_; rintro e _ ⟨rfl, hw⟩; rw [hw]; clear hw)
  go_ret
  exact ⟨rfl, rfl⟩
set_option maxRecDepth 100000 in
set_option maxHeartbeats 400000 in
theorem count_un (x : Value) (w : World) (hu : Unpool w x) : Calls Tryd.prog 26 #[x] w (Tells (.int .i64 0) w) := by
  go_enter Tryd.func26, Tryd.ntmps26
  go_wp2_with (go_at_call 37; refine (show Calls Tryd.prog 37 #[x] w _ from hu).mono ?_; rintro e _ ⟨rfl, hw⟩; rw [hw]; clear hw)
  go_ret
  exact ⟨rfl, rfl⟩
set_option maxRecDepth 100000 in
set_option maxHeartbeats 400000 in
theorem get_un (x : Value) (no : Int) (w : World) (hu : Unpool w x) : Calls Tryd.prog 38 #[x, .int .i64 no] w (Tells (.tuple #[.slice none 0 0, .int .i64 1]) w) := by
  have HA := hid (basked_un x no w hu)
  go_enter Tryd.func38, Tryd.ntmps38
  go_wp2_with (go_at_call 48; refine HA.out.mono ?_; rintro e _ ⟨rfl, hw⟩; rw [hw]; clear hw)
  go_ret2
  exact ⟨rfl, rfl⟩
set_option maxRecDepth 100000 in
set_option maxHeartbeats 400000 in
theorem put_un (x : Value) (no : Int) (b : Value) (w : World) (hu : Unpool w x) : Calls Tryd.prog 35 #[x, .int .i64 no, b] w (Tells (.int .i64 1) w) := by
  have HA := hid (basked_un x no w hu)
  go_enter Tryd.func35, Tryd.ntmps35
  go_wp2_with (go_at_call 48; refine HA.out.mono ?_; rintro e _ ⟨rfl, hw⟩; rw [hw]; clear hw)
  go_ret
  exact ⟨rfl, rfl⟩
set_option maxRecDepth 100000 in
set_option maxHeartbeats 400000 in
theorem which_un (x f : Value) (w : World) (hu : Unpool w x) : Calls Tryd.prog 44 #[x, f] w (Tells (.slice none 0 0) w) := by
  go_enter Tryd.func44, Tryd.ntmps44
  go_wp2_with (go_at_call 37; refine (show Calls Tryd.prog 37 #[x] w _ from hu).mono ?_; rintro e _ ⟨rfl, hw⟩; rw [hw]; clear hw)
  go_ret
  exact ⟨rfl, rfl⟩
set_option maxRecDepth 100000 in
set_option maxHeartbeats 400000 in
theorem fresh_un (x : Value) (w : World) (hu : Unpool w x) : Calls Tryd.prog 32 #[x] w (Tells (.slice none 0 0) w) := by
  have H := hid (which_un x (.func (.func 45) #[] #[]) w hu)
  go_enter Tryd.func32, Tryd.ntmps32
  go_wp2_with (go_at_call 44; refine H.out.mono ?_; rintro e _ ⟨rfl, hw⟩; rw [hw]; clear hw)
  go_ret
  exact ⟨rfl, rfl⟩
set_option maxRecDepth 100000 in
set_option maxHeartbeats 400000 in
theorem accept_un (x : Value) (w : World) (hu : Unpool w x) : Calls Tryd.prog 19 #[x] w (Tells (.int .i64 0) w) := by
  have H := hid (fresh_un x w hu)
  go_enter Tryd.func19, Tryd.ntmps19
  go_wp2_with (go_at_call 32; refine H.out.mono ?_; rintro e _ ⟨rfl, hw⟩; rw [hw]; clear hw)
  go_loopw [11] (fun iv wr => iv = .int .i64 0 ∧ wr = w) (fun _ _ => 0)
  case atStart => exact ⟨rfl, rfl⟩
  case round =>
    obtain ⟨rfl, hw⟩ := hrel
    rw [hw]
    go_wp2_with fail
    go_ret
    exact ⟨rfl, rfl⟩
set_option maxRecDepth 100000 in
set_option maxHeartbeats 400000 in
theorem drop_un (x : Value) (w : World) (hu : Unpool w x) : Calls Tryd.prog 20 #[x] w (Tells (.int .i64 0) w) := by
  have H := hid (fresh_un x w hu)
  go_enter Tryd.func20, Tryd.ntmps20
  go_wp2_with (go_at_call 32; refine H.out.mono ?_; rintro e _ ⟨rfl, hw⟩; rw [hw]; clear hw)
  go_loopw [11] (fun iv wr => iv = .int .i64 0 ∧ wr = w) (fun _ _ => 0)
  case atStart => exact ⟨rfl, rfl⟩
  case round =>
    obtain ⟨rfl, hw⟩ := hrel
    rw [hw]
    go_wp2_with fail
    go_ret
    exact ⟨rfl, rfl⟩
end Go.Proofs.YtokbiekdompaoaaDoor
