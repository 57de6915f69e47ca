/- Texts put together: FPool, FLeaf, FNeed, FOld, FOld2, FHold, FHold2, FPage, FRead. -/
import Derived.Test.YtjlennpoaefllaaGreatDoorQ16
import Derived.Test.YtjlennpoaefllaaGreatDoorQ18
import Derived.BigQuiet
import Derived.Deep.RegionWith
/- Where a pool lies in memory. -/
namespace Go.Proofs.YtjlennpoaefllaaGreatDoor
open Go.RowKit

/-- A frame in its block, with its age, and where the bytes lie that it was. -/
structure Tk where
  f : F.Fr
  b : Nat
  age : Int
  wg : Nat
  wo : Nat
  wc : Nat
def Tk.both (t : Tk) : Bool := t.f.fresh && t.f.dirty
/-- The blocks of its structs. -/
def Tk.bl (t : Tk) : List Nat := [t.b]
def Tk.pr (t : Tk) : Int × Nat := (t.f.no, t.b)
/-- What it was. -/
def Tk.wp (t : Tk) : Value := if t.both then .slice (some ⟨t.wg, t.wo, none⟩) 256 t.wc else .slice none 0 0
/-- A frame's struct. -/
abbrev FBox (g o c : Nat) (s age : Int) (wp : Value) : Obj := .cells #[.slice (some ⟨g, o, none⟩) 256 c, .int .i64 s, .int .i64 age, wp] 134 (0, 0)
/-- At b lies a frame's struct that holds bytes. -/
def FrAt (w : World) (O : Nat → Prop) (b : Nat) (bs : List UInt8) (s age : Int) (wp : Value) : Prop := ∃ g o c, w.heap[b]? = some (FBox g o c s age wp) ∧ O b ∧ O g ∧ 256 ≤ c ∧ bs.length = 256 ∧ At w (some ⟨g, o, none⟩) bs
set_option maxRecDepth 100000 in
theorem FrAt.touch {w w' : World} {O T : Nat → Prop} {b : Nat} {bs : List UInt8} {s age : Int} {wp : Value} (h : FrAt w O b bs s age wp) (hT : Touch T w w') (hn : ∀ k, O k → ¬ T k) : FrAt w' O b bs s age wp := by
  obtain ⟨g, o, c, h1, h2, h3, h4, h5, h6⟩ := h
  exact ⟨g, o, c, by rw [hT.block b (Array.getElem?_eq_some_iff.1 h1).1 (hn _ h2)]; exact h1, h2, h3, h4, h5, h6.block (fun b' o' e hb => by cases e; exact hT.block _ hb (hn _ h3))⟩
set_option maxRecDepth 100000 in
theorem FrAt.mono {w : World} {O O' : Nat → Prop} {b : Nat} {bs : List UInt8} {s age : Int} {wp : Value} (h : FrAt w O b bs s age wp) (hn : ∀ k, O k → O' k) : FrAt w O' b bs s age wp := by
  obtain ⟨g, o, c, h1, h2, h3, rest⟩ := h
  exact ⟨g, o, c, h1, hn _ h2, hn _ h3, rest⟩
set_option maxRecDepth 100000 in
theorem FrAt.lt {w : World} {O : Nat → Prop} {b : Nat} {bs : List UInt8} {s age : Int} {wp : Value} (h : FrAt w O b bs s age wp) : b < w.heap.size := by
  obtain ⟨g, o, c, h1, _⟩ := h
  exact (Array.getElem?_eq_some_iff.1 h1).1
set_option maxRecDepth 100000 in
/-- Bytes do not lie in a frame's struct. -/
theorem no_byte {w : World} {b g o c : Nat} {s age : Int} {wp : Value} (h1 : w.heap[b]? = some (FBox g o c s age wp)) (hw : ∀ z, wp ≠ .int .u8 z) (j : Nat) (z : Int) : w.cell? ⟨b, j, none⟩ ≠ some (.int .u8 z) := by
  rw [cellOf h1]
  intro e
  match j, e with
  | 0, e => cases e
  | 1, e => cases e
  | 2, e => cases e
  | 3, e => exact hw z (by simpa using e)
  | j + 4, e => simp at e
set_option maxRecDepth 100000 in
theorem FrAt.ne {w : World} {b g o c : Nat} {s age : Int} {wp : Value} {bs : List UInt8} (h1 : w.heap[b]? = some (FBox g o c s age wp)) {g' o' : Nat} (h2 : At w (some ⟨g', o', none⟩) bs) (hl : bs.length = 256) (hw : ∀ z, wp ≠ .int .u8 z) : g' ≠ b := by
  intro e
  subst e
  obtain ⟨b', o2, e', hc⟩ := h2 0 (bs[0]'(by omega)) (by simp)
  cases e'
  exact no_byte h1 hw _ _ hc
set_option maxRecDepth 100000 in
theorem Tk.wp_no (t : Tk) (z : Int) : t.wp ≠ .int .u8 z := by unfold Tk.wp; split <;> simp
set_option maxRecDepth 100000 in
/-- A frame's struct turns: where it was another one was. -/
theorem FrAt.other {w w' : World} {O : Nat → Prop} {b b0 : Nat} {bs : List UInt8} {s age : Int} {wp : Value} (h : FrAt w O b bs s age wp) {g0 o0 c0 : Nat} {s0 a0 : Int} {wp0 : Value} (h0 : w.heap[b0]? = some (FBox g0 o0 c0 s0 a0 wp0)) (hw : ∀ z, wp0 ≠ .int .u8 z) (hT : Touch (fun k => k = b0) w w') (hne : b ≠ b0) : FrAt w' O b bs s age wp := by
  obtain ⟨g, o, c, h1, h2, h3, h4, h5, h6⟩ := h
  exact ⟨g, o, c, by rw [hT.block b (Array.getElem?_eq_some_iff.1 h1).1 hne]; exact h1, h2, h3, h4, h5, h6.block (fun b' o' e hb => by cases e; exact hT.block _ hb (FrAt.ne h0 h6 h5 hw))⟩
/-- Bytes of a page of one's own. -/
structure WsAt (w : World) (O : Nat → Prop) (g o c : Nat) (bs : List UInt8) : Prop where
  own : O g
  cap : 256 ≤ c
  len : bs.length = 256
  at' : At w (some ⟨g, o, none⟩) bs
theorem WsAt.touch {w w' : World} {O T : Nat → Prop} {g o c : Nat} {bs : List UInt8} (h : WsAt w O g o c bs) (hT : Touch T w w') (hn : ∀ k, O k → ¬ T k) : WsAt w' O g o c bs :=
  ⟨h.own, h.cap, h.len, h.at'.block (fun b' o' e hb => by cases e; exact hT.block _ hb (hn _ h.own))⟩
theorem WsAt.mono {w : World} {O O' : Nat → Prop} {g o c : Nat} {bs : List UInt8} (h : WsAt w O g o c bs) (hn : ∀ k, O k → O' k) : WsAt w O' g o c bs := ⟨hn _ h.own, h.cap, h.len, h.at'⟩
theorem WsAt.other {w w' : World} {O : Nat → Prop} {g o c : Nat} {bs : List UInt8} (h : WsAt w O g o c bs) {b0 g0 o0 c0 : Nat} {s0 a0 : Int} {wp0 : Value} (h0 : w.heap[b0]? = some (FBox g0 o0 c0 s0 a0 wp0)) (hw : ∀ z, wp0 ≠ .int .u8 z) (hT : Touch (fun k => k = b0) w w') : WsAt w' O g o c bs :=
  ⟨h.own, h.cap, h.len, h.at'.block (fun b' o' e hb => by cases e; exact hT.block _ hb (FrAt.ne h0 h.at' h.len hw))⟩
set_option maxRecDepth 100000 in
theorem FrAt.ws {w : World} {O : Nat → Prop} {b : Nat} {bs : List UInt8} {s age : Int} {wp : Value} (h : FrAt w O b bs s age wp) : ∃ g o c, w.heap[b]? = some (FBox g o c s age wp) ∧ O b ∧ WsAt w O g o c bs := by
  obtain ⟨g, o, c, h1, h2, h3, h4, h5, h6⟩ := h
  exact ⟨g, o, c, h1, h2, h3, h4, h5, h6⟩
/-- A frame, and what it was. -/
structure TkAt (w : World) (O : Nat → Prop) (t : Tk) : Prop where
  now : FrAt w O t.b t.f.now (F.st t.f) t.age t.wp
  was : t.both = true → WsAt w O t.wg t.wo t.wc t.f.was
theorem TkAt.touch {w w' : World} {O T : Nat → Prop} {t : Tk} (h : TkAt w O t) (hT : Touch T w w') (hn : ∀ k, O k → ¬ T k) : TkAt w' O t :=
  ⟨h.now.touch hT hn, fun e => (h.was e).touch hT hn⟩
theorem TkAt.mono {w : World} {O O' : Nat → Prop} {t : Tk} (h : TkAt w O t) (hn : ∀ k, O k → O' k) : TkAt w O' t :=
  ⟨h.now.mono hn, fun e => (h.was e).mono hn⟩
theorem TkAt.other {w w' : World} {O : Nat → Prop} {t : Tk} (h : TkAt w O t) {b0 g0 o0 c0 : Nat} {s0 a0 : Int} {wp0 : Value} (h0 : w.heap[b0]? = some (FBox g0 o0 c0 s0 a0 wp0)) (hw : ∀ z, wp0 ≠ .int .u8 z) (hT : Touch (fun k => k = b0) w w') (hne : ¬ b0 ∈ t.bl) : TkAt w' O t :=
  ⟨h.now.other h0 hw hT (fun e => hne (by simp [Tk.bl, e])), fun e => (h.was e).other h0 hw hT⟩

/-- A pool's struct. -/
abbrev PBox (dp : Nat) (s : F.Po) (hb : Nat) (y : Int) : Obj := .cells #[Ptr dp, .int .i64 s.fr, .int .i64 s.ct, .int .i64 s.mo, .map (some hb), .int .i64 y] 89 (0, 0)
/-- At p lies a pool on the disk dp, in the state s; its map in hb, its frames G, the age that was given last y. -/
structure PoolAt (w : World) (O : Nat → Prop) (p dp : Nat) (s : F.Po) (hb : Nat) (y : Int) (G : List Tk) : Prop where
  box : w.heap[p]? = some (PBox dp s hb y)
  mp : MP w hb (G.map Tk.pr)
  L : s.L = G.map (·.f)
  at' : ∀ t ∈ G, TkAt w O t
  nd : (G.flatMap Tk.bl).Nodup
  age : G.Pairwise (fun a b => a.age < b.age)
  le : ∀ t ∈ G, t.age ≤ y
  y0 : 0 ≤ y
  op : O p
  oh : O hb
/-- How far a pool's numbers go. -/
structure POk (s : F.Po) (D : dSt) : Prop where
  fr0 : 0 ≤ s.fr
  ct1 : 1 ≤ s.ct
  fit : s.fr + s.ct ≤ D.size
  size : D.size ≤ 4096
  mo1 : 1 ≤ s.mo
  mo2 : s.mo ≤ 256
/-- A pool whose blocks are all of O; n calls at most have given an age. -/
def IsPool (w : World) (O : Nat → Prop) (p dp : Nat) (s : F.Po) (n : Nat) : Prop := ∃ hb y G, PoolAt w O p dp s hb y G ∧ y ≤ (n : Int)
theorem PoolAt.touch {w w' : World} {O T : Nat → Prop} {p dp : Nat} {s : F.Po} {hb : Nat} {y : Int} {G : List Tk} (h : PoolAt w O p dp s hb y G) (hT : Touch T w w') (hn : ∀ k, O k → ¬ T k) : PoolAt w' O p dp s hb y G :=
  ⟨by rw [hT.block p (Array.getElem?_eq_some_iff.1 h.box).1 (hn _ h.op)]; exact h.box, h.mp.touch hT (hn _ h.oh), h.L, fun t ht => (h.at' t ht).touch hT hn, h.nd, h.age, h.le, h.y0, h.op, h.oh⟩
set_option maxRecDepth 100000 in
theorem IsPool.touch {w w' : World} {O T : Nat → Prop} {p dp : Nat} {s : F.Po} {n : Nat} (h : IsPool w O p dp s n) (hT : Touch T w w') (hn : ∀ k, O k → ¬ T k) : IsPool w' O p dp s n := by
  obtain ⟨hb, y, G, h, hy⟩ := h
  exact ⟨hb, y, G, h.touch hT hn, hy⟩
theorem IsPool.adds {w w' : World} {O : Nat → Prop} {p dp : Nat} {s : F.Po} {n : Nat} (h : IsPool w O p dp s n) (hT : Adds w w') : IsPool w' O p dp s n := h.touch hT (fun _ _ => id)
theorem PoolAt.adds {w w' : World} {O : Nat → Prop} {p dp : Nat} {s : F.Po} {hb : Nat} {y : Int} {G : List Tk} (h : PoolAt w O p dp s hb y G) (hT : Adds w w') : PoolAt w' O p dp s hb y G := h.touch hT (fun _ _ => id)
theorem PoolAt.mono {w : World} {O O' : Nat → Prop} {p dp : Nat} {s : F.Po} {hb : Nat} {y : Int} {G : List Tk} (h : PoolAt w O p dp s hb y G) (hn : ∀ k, O k → O' k) : PoolAt w O' p dp s hb y G :=
  ⟨h.box, h.mp, h.L, fun t ht => (h.at' t ht).mono hn, h.nd, h.age, h.le, h.y0, hn _ h.op, hn _ h.oh⟩
set_option maxRecDepth 100000 in
/-- No number stands twice. -/
theorem PoolAt.once {w : World} {O : Nat → Prop} {p dp : Nat} {s : F.Po} {hb : Nat} {y : Int} {G : List Tk} (h : PoolAt w O p dp s hb y G) : (G.map (fun t => t.f.no)).Nodup := by
  have := h.mp.once
  rw [List.map_map] at this
  exact this
set_option maxRecDepth 100000 in
theorem mem_nodup {G : List Tk} (hn : (G.map (fun t => t.f.no)).Nodup) {t u : Tk} (ht : t ∈ G) (hu : u ∈ G) (e : t.f.no = u.f.no) : t = u := by
  rw [List.nodup_iff_pairwise_ne, List.pairwise_map] at hn
  refine Classical.byContradiction fun hne => ?_
  obtain ⟨i, hi, rfl⟩ := List.mem_iff_getElem.1 ht
  obtain ⟨j, hj, rfl⟩ := List.mem_iff_getElem.1 hu
  have hij : i ≠ j := fun e => hne (by subst e; rfl)
  rcases Nat.lt_or_gt_of_ne hij with q | q
  · exact (List.pairwise_iff_getElem.1 hn i j hi hj q) e
  · exact (List.pairwise_iff_getElem.1 hn j i hj hi q) e.symm
set_option maxRecDepth 100000 in
/-- A page that is held, or is not. -/
theorem PoolAt.find {w : World} {O : Nat → Prop} {p dp : Nat} {s : F.Po} {hb : Nat} {y : Int} {G : List Tk} (h : PoolAt w O p dp s hb y G) (no : Int) :
    ((∃ t ∈ G, t.f.no = no ∧ F.at? s.L no = some t.f ∧ lk (G.map Tk.pr) no = .pointer (some ⟨t.b, 0, none⟩)) ∨ ((∀ t ∈ G, t.f.no ≠ no) ∧ F.at? s.L no = none ∧ lk (G.map Tk.pr) no = .pointer none)) := by
  by_cases q : ∃ t ∈ G, t.f.no = no
  · obtain ⟨t, ht, rfl⟩ := q
    refine .inl ⟨t, ht, rfl, ?_, lk_some h.mp.once (List.mem_map_of_mem (f := Tk.pr) ht)⟩
    unfold F.at?
    rw [h.L]
    cases hf : (G.map (·.f)).find? (fun f => decide (f.no = t.f.no)) with
    | none => exact absurd (List.find?_eq_none.1 hf t.f (List.mem_map_of_mem (f := Tk.f) ht)) (by simp)
    | some f =>
      have h1 : f.no = t.f.no := by simpa using List.find?_some hf
      obtain ⟨u, hu, rfl⟩ := List.mem_map.1 (List.mem_of_find?_eq_some hf)
      rw [mem_nodup h.once hu ht h1]
  · refine .inr ⟨fun t ht e => q ⟨t, ht, e⟩, ?_, lk_none (fun x hx e => ?_)⟩
    · unfold F.at?
      rw [h.L, List.find?_eq_none]
      intro f hf
      obtain ⟨t, ht, rfl⟩ := List.mem_map.1 hf
      simpa using fun e => q ⟨t, ht, e⟩
    · obtain ⟨t, ht, rfl⟩ := List.mem_map.1 hx
      exact q ⟨t, ht, e⟩
set_option maxRecDepth 100000 in
theorem PoolAt.len {w : World} {O : Nat → Prop} {p dp : Nat} {s : F.Po} {hb : Nat} {y : Int} {G : List Tk} (h : PoolAt w O p dp s hb y G) : s.L.length = G.length := by rw [h.L, List.length_map]
end Go.Proofs.YtjlennpoaefllaaGreatDoor

/- The small calls of a pool: made, asked, isClean, isFresh, asDirty, needsRoom. -/
namespace Go.Proofs.YtjlennpoaefllaaGreatDoor
open Go.RowKit

set_option maxRecDepth 100000 in
theorem zeroPF (w : World) : (zeroValue 131).run Tryz.prog w = .ok (.pointer none) w := by kernel_rfl
set_option maxRecDepth 100000 in
set_option maxHeartbeats 400000 in
theorem bmade_yes (w : World) (p dp : Nat) (c0 : w.cell? ⟨p, 0, none⟩ = some (Ptr dp)) : Calls Tryz.prog 81 #[Ptr p] w (Tells (.bool true) w) := by
  unfold Ptr at *
  go_enter Tryz.func81, Tryz.ntmps81
  go_wp2
  go_ret
  exact ⟨rfl, rfl⟩
set_option maxRecDepth 100000 in
set_option maxHeartbeats 400000 in
theorem basked_any {w : World} {O : Nat → Prop} {p dp : Nat} {s : F.Po} {hb : Nat} {y : Int} {G : List Tk} (h : PoolAt w O p dp s hb y G) (no : Int) : Calls Tryz.prog 90 #[Ptr p, .int .i64 no] w (Tells (.int .i64 (if F.inPool s no then 0 else 2)) w) := by
  have c2 : w.cell? ⟨p, 2, none⟩ = some (.int .i64 s.ct) := cellOf h.box 2
  have HM := hid (bmade_yes w p dp (cellOf h.box 0))
  unfold Ptr at *
  have HI : Hid (F.inPool s no = (decide (0 ≤ no) && decide (no < s.ct))) := rfl
  clear h
  by_cases h1 : no < 0
  · have hq : F.inPool s no = false := by rw [HI.out, decide_eq_false (by omega)]; rfl
    rw [hq]
    go_enter Tryz.func90, Tryz.ntmps90
    go_wp2_with (go_at_call 81; refine HM.out.mono ?_; rintro e _ ⟨rfl, rfl⟩)
    go_ret
    exact ⟨rfl, rfl⟩
  · by_cases h2 : no < s.ct
    · have hq : F.inPool s no = true := by rw [HI.out, decide_eq_true (by omega), decide_eq_true h2]; rfl
      have h3 : ¬ s.ct ≤ no := by omega
      rw [hq]
      go_enter Tryz.func90, Tryz.ntmps90
      go_wp2_with (go_at_call 81; refine HM.out.mono ?_; rintro e _ ⟨rfl, rfl⟩)
      go_ret
      exact ⟨rfl, rfl⟩
    · have hq : F.inPool s no = false := by rw [HI.out, decide_eq_false h2, Bool.and_false]
      have h3 : s.ct ≤ no := by omega
      rw [hq]
      go_enter Tryz.func90, Tryz.ntmps90
      go_wp2_with (go_at_call 81; refine HM.out.mono ?_; rintro e _ ⟨rfl, rfl⟩)
      go_ret
      exact ⟨rfl, rfl⟩
set_option maxRecDepth 100000 in
set_option maxHeartbeats 400000 in
theorem isClean_any (w : World) (b : Nat) (z : Int) (q : Bool) (hq : decide (z = 0) = q) (c1 : w.cell? ⟨b, 1, none⟩ = some (.int .i64 z)) : Calls Tryz.prog 130 #[.pointer (some ⟨b, 0, none⟩)] w (Tells (.bool q) w) := by
  go_enter Tryz.func130, Tryz.ntmps130
  go_wp2
  go_ret
  exact ⟨by first | (rw [← hq]; rfl) | (subst hq; rfl), rfl⟩
/-- What a frame is, or was, as a dirty one. -/
structure AsD (w : World) (O : Nat → Prop) (f : F.Fr) (v : Value) (g o c : Nat) : Prop where
  is : v = if f.dirty then .slice (some ⟨g, o, none⟩) 256 c else .slice none 0 0
  at' : f.dirty = true → WsAt w O g o c (if f.fresh then f.was else f.now)
set_option maxRecDepth 100000 in
set_option maxHeartbeats 400000 in
theorem asDirty_nil (w : World) : Calls Tryz.prog 94 #[.pointer none] w (Tells (.slice none 0 0) w) := by
  go_enter Tryz.func94, Tryz.ntmps94
  go_wp2
  go_ret
  exact ⟨rfl, rfl⟩
set_option maxRecDepth 100000 in
set_option maxHeartbeats 400000 in
theorem asDirty_one (w : World) (b : Nat) (v : Value) (c1 : w.cell? ⟨b, 1, none⟩ = some (.int .i64 1)) (c0 : w.cell? ⟨b, 0, none⟩ = some v) : Calls Tryz.prog 94 #[.pointer (some ⟨b, 0, none⟩)] w (Tells v w) := by
  go_enter Tryz.func94, Tryz.ntmps94
  go_wp2
  go_ret
  exact ⟨rfl, rfl⟩
set_option maxRecDepth 100000 in
set_option maxHeartbeats 400000 in
theorem asDirty_not (w : World) (b : Nat) (z : Int) (v : Value) (hz : z ≠ 1) (c1 : w.cell? ⟨b, 1, none⟩ = some (.int .i64 z)) (c3 : w.cell? ⟨b, 3, none⟩ = some v) : Calls Tryz.prog 94 #[.pointer (some ⟨b, 0, none⟩)] w (Tells v w) := by
  have hz' : (z == 1) = false := by simp [hz]
  go_enter Tryz.func94, Tryz.ntmps94
  go_wp2
  go_ret
  exact ⟨rfl, rfl⟩
set_option maxRecDepth 100000 in
theorem asDirty_any {w : World} {O : Nat → Prop} {t : Tk} (h : TkAt w O t) : ∃ v g o c, AsD w O t.f v g o c ∧ ∀ w', Adds w w' → Calls Tryz.prog 94 #[.pointer (some ⟨t.b, 0, none⟩)] w' (Tells v w') := by
  obtain ⟨g, o, c, hbx, _, hws⟩ := h.now.ws
  have hbx' : ∀ w', Adds w w' → w'.heap[t.b]? = some (FBox g o c (F.st t.f) t.age t.wp) := fun w' hA => by rw [hA.block t.b (Array.getElem?_eq_some_iff.1 hbx).1 id]; exact hbx
  cases hf : t.f.fresh with
  | false =>
    cases hd : t.f.dirty with
    | false =>
      have hst : F.st t.f = 0 := by unfold F.st; rw [hf, hd]; rfl
      have hwp : t.wp = .slice none 0 0 := by unfold Tk.wp Tk.both; rw [hf]; rfl
      refine ⟨.slice none 0 0, 0, 0, 0, ⟨by rw [hd]; rfl, by rw [hd]; intro e; cases e⟩, fun w' hA => ?_⟩
      have q := hbx' w' hA
      rw [hst, hwp] at q
      exact asDirty_not w' t.b 0 _ (by decide) (cellOf q 1) (cellOf q 3)
    | true =>
      have hst : F.st t.f = 1 := by unfold F.st; rw [hf, hd]; rfl
      refine ⟨.slice (some ⟨g, o, none⟩) 256 c, g, o, c, ⟨by rw [hd]; rfl, fun _ => by rw [hf]; exact hws⟩, fun w' hA => ?_⟩
      have q := hbx' w' hA
      rw [hst] at q
      exact asDirty_one w' t.b _ (cellOf q 1) (cellOf q 0)
  | true =>
    have hst : F.st t.f = 2 := by unfold F.st; rw [hf]; rfl
    have hbo : t.both = t.f.dirty := by unfold Tk.both; rw [hf]; rfl
    refine ⟨t.wp, t.wg, t.wo, t.wc, ⟨by unfold Tk.wp; rw [hbo], fun e => by rw [hf]; exact h.was (by rw [hbo]; exact e)⟩, fun w' hA => ?_⟩
    have q := hbx' w' hA
    rw [hst] at q
    exact asDirty_not w' t.b 2 _ (by decide) (cellOf q 1) (cellOf q 3)
end Go.Proofs.YtjlennpoaefllaaGreatDoor

/- Whether room has to be made. -/
namespace Go.Proofs.YtjlennpoaefllaaGreatDoor
open Go.RowKit

set_option maxRecDepth 100000 in
theorem MP.len {w : World} {r : Nat} {l : List (Int × Nat)} (h : MP w r l) (ty : TypeId) : (Builtin.len_ #[87] ty #[.map (some r)]).run Tryz.prog w = .ok (.int .i64 (l.length : Int)) w := by
  obtain ⟨es, clock, hb, h⟩ := h
  rw [run_len_map w 87 ty r es clock (by kernel_rfl) hb, h.len]
  rfl
set_option maxRecDepth 100000 in
set_option maxHeartbeats 1000000 in
theorem needsRoom_any {w : World} {O : Nat → Prop} {p dp : Nat} {s : F.Po} {hb : Nat} {y : Int} {G : List Tk} (h : PoolAt w O p dp s hb y G) (no : Int) : Calls Tryz.prog 128 #[Ptr p, .int .i64 no] w (Adding (.bool (F.need s no)) w) := by
  have c3 : w.cell? ⟨p, 3, none⟩ = some (.int .i64 s.mo) := cellOf h.box 3
  have c4 : w.cell? ⟨p, 4, none⟩ = some (.map (some hb)) := cellOf h.box 4
  have hl := fun n => (h.mp.touch (hT := (adds_drewN w n)) id).look (P := Tryz.prog) Tryz.underlying87 Tryz.underlying3 (zeroPF _) no
  have hn := fun n ty => (h.mp.touch (hT := (adds_drewN w n)) id).len ty
  have HN : Hid (F.need s no = ((F.at? s.L no).isNone && decide (s.mo ≤ ((G.map Tk.pr).length : Int)))) := by
    show _ = _
    rw [F.need, h.len, List.length_map]
  have HF := hid (h.find no)
  unfold Ptr
  clear h
  generalize G.map Tk.pr = l at *
  rcases HF.out with ⟨t, _, _, h1, h2⟩ | ⟨_, h1, h2⟩
  · have hq : F.need s no = false := by rw [HN.out, h1]; rfl
    rw [h2] at hl
    rw [hq]
    go_enter Tryz.func128, Tryz.ntmps128
    go_upto_region 1 with fail
    go_quiet (fail)
    go_wp2
    go_ret
    exact ⟨rfl, adds_drewN w _⟩
  · have hq : F.need s no = decide (s.mo ≤ (l.length : Int)) := by rw [HN.out, h1]; rfl
    rw [h2] at hl
    rw [hq]
    go_enter Tryz.func128, Tryz.ntmps128
    go_upto_region 1 with fail
    go_quiet (fail)
    go_wp2
    go_ret
    exact ⟨rfl, adds_drewN w _⟩
end Go.Proofs.YtjlennpoaefllaaGreatDoor

/- The oldest clean frame, whatever order the map is gone through in. -/
namespace Go.Proofs.YtjlennpoaefllaaGreatDoor
open Go.RowKit

set_option maxRecDepth 100000 in
theorem Rg.perm {w : World} {hb r : Nat} {l todo todo' : List (Int × Nat)} (h : Rg w hb r l todo) (hp : todo.Perm todo') : Rg w hb r l todo' := by
  obtain ⟨es, clock, since, seen, c0, q1, q2, q3, q4, q5, q6, q7⟩ := h
  exact ⟨es, clock, since, seen, c0, q1, q2, q3, q4, q5, q6, q7.trans (hp.map pv)⟩
set_option maxRecDepth 100000 in
theorem next_tk {T : List Tk} {x : Int × Nat} {todo' : List (Int × Nat)} (h : (T.map Tk.pr).Perm (x :: todo')) : ∃ t T', x = t.pr ∧ T.Perm (t :: T') ∧ todo'.Perm (T'.map Tk.pr) := by
  obtain ⟨t, ht, rfl⟩ := List.mem_map.1 (h.mem_iff.2 List.mem_cons_self)
  obtain ⟨i, hi, rfl⟩ := List.mem_iff_getElem.1 ht
  have e2 : T = T.take i ++ T[i] :: T.drop (i + 1) := by rw [← List.drop_eq_getElem_cons hi, List.take_append_drop]
  have hp : T.Perm (T[i] :: (T.take i ++ T.drop (i + 1))) := by
    conv => lhs; rw [e2]
    exact List.perm_middle
  refine ⟨T[i], _, rfl, hp, ?_⟩
  have := (hp.map Tk.pr).symm.trans h
  exact (List.Perm.cons_inv this).symm
section
variable {P : Program} {w : World} {ops : Array Oper} {rest : List Oper} {o : Oper} {a : Act} {Q : Exit → Act → World → Prop} {l : List (Int × Nat)} {T : List Tk}
set_option maxRecDepth 100000 in
/-- The step at the operation, over frames. -/
theorem wpList_next_t (hg : o.guard = none) (it : Operand) (hop : o.op = Op.next it false) (hb r : Nat) (hit : a.eval it = .pointer (some ⟨r, 0, none⟩)) (h : Rg w hb r l (T.map Tk.pr))
    (hDone : T = [] → wpList P ops Q rest (a.put o.dst (.tuple #[.bool false])) w)
    (hMore : ∀ (t : Tk) (T' : List Tk) (w' : World), T.Perm (t :: T') → Rg w' hb r l (T'.map Tk.pr) → Touch (fun k => k = r) w w' →
      (Instr.entry (.pointer (some ⟨r, 0, none⟩))).run P w' = .ok (.tuple #[.int .i64 t.f.no, .pointer (some ⟨t.b, 0, none⟩)]) w' → wpList P ops Q rest (a.put o.dst (.tuple #[.bool true, .int .i64 t.f.no, .pointer (some ⟨t.b, 0, none⟩)])) w') :
    wpList P ops Q (o :: rest) a w := by
  refine wpList_next_p hg it hop hb r hit h (fun e => hDone ?_) (fun x todo' w' hp _ hR hT _ hen => ?_)
  · exact List.map_eq_nil_iff.1 e
  · obtain ⟨t, T', rfl, h1, h2⟩ := next_tk hp
    exact hMore t T' w' h1 (hR.perm h2) hT hen
end
/-- Of the frames D, no is the number of the oldest clean one, if ok; else none is. -/
def Best (D : List Tk) (no : Int) (ok : Bool) : Prop := (ok = false ∧ ∀ t ∈ D, F.clean t.f = false) ∨ (ok = true ∧ ∃ t ∈ D, F.clean t.f = true ∧ t.f.no = no ∧ ∀ u ∈ D, F.clean u.f = true → t.age ≤ u.age)
theorem Best.nil : Best [] 0 false := .inl ⟨rfl, by simp⟩
set_option maxRecDepth 100000 in
theorem Best.same {D : List Tk} {no : Int} {ok : Bool} (h : Best D no ok) {t : Tk} (ht : F.clean t.f = false) : Best (t :: D) no ok := by
  rcases h with ⟨h1, h2⟩ | ⟨h1, u, hu, h2, h3, h4⟩
  · exact .inl ⟨h1, fun v hv => by rcases List.mem_cons.1 hv with rfl | hv; exact ht; exact h2 v hv⟩
  · exact .inr ⟨h1, u, List.mem_cons_of_mem _ hu, h2, h3, fun v hv hc => by rcases List.mem_cons.1 hv with rfl | hv; rw [ht] at hc; cases hc; exact h4 v hv hc⟩
set_option maxRecDepth 100000 in
theorem Best.first {D : List Tk} {no : Int} (h : Best D no false) {t : Tk} (ht : F.clean t.f = true) : Best (t :: D) t.f.no true := by
  rcases h with ⟨h1, h2⟩ | ⟨h1, _⟩
  · exact .inr ⟨rfl, t, List.mem_cons_self, ht, rfl, fun v hv hc => by rcases List.mem_cons.1 hv with rfl | hv; exact Int.le_refl _; rw [h2 v hv] at hc; cases hc⟩
  · cases h1
set_option maxRecDepth 100000 in
/-- The frame that Best has found. -/
theorem Best.found {D : List Tk} {no : Int} (h : Best D no true) : ∃ t ∈ D, F.clean t.f = true ∧ t.f.no = no ∧ ∀ u ∈ D, F.clean u.f = true → t.age ≤ u.age := by
  rcases h with ⟨h1, _⟩ | ⟨_, h2⟩
  · cases h1
  · exact h2
theorem Best.older {D : List Tk} {u : Tk} (hu : ∀ v ∈ D, F.clean v.f = true → u.age ≤ v.age) {t : Tk} (ht : F.clean t.f = true) (h : t.age < u.age) : Best (t :: D) t.f.no true :=
  .inr ⟨rfl, t, List.mem_cons_self, ht, rfl, fun v hv hc => by rcases List.mem_cons.1 hv with rfl | hv; exact Int.le_refl _; have := hu v hv hc; omega⟩
theorem Best.stays {D : List Tk} {u : Tk} (hm : u ∈ D) (hc : F.clean u.f = true) (hu : ∀ v ∈ D, F.clean v.f = true → u.age ≤ v.age) {t : Tk} (h : ¬ t.age < u.age) : Best (t :: D) u.f.no true :=
  .inr ⟨rfl, u, List.mem_cons_of_mem _ hm, hc, rfl, fun v hv hc => by rcases List.mem_cons.1 hv with rfl | hv; omega; exact hu v hv hc⟩
set_option maxRecDepth 100000 in
theorem Best.perm {D D' : List Tk} {no : Int} {ok : Bool} (h : Best D no ok) (hp : D.Perm D') : Best D' no ok := by
  rcases h with ⟨h1, h2⟩ | ⟨h1, u, hu, h2, h3, h4⟩
  · exact .inl ⟨h1, fun v hv => h2 v (hp.mem_iff.2 hv)⟩
  · exact .inr ⟨h1, u, hp.mem_iff.1 hu, h2, h3, fun v hv hc => h4 v (hp.mem_iff.2 hv) hc⟩
/-- What oldest tells: the first clean frame of the list. -/
def POld (w : World) (L : List F.Fr) (e : Ending) (w' : World) : Prop := ∃ no ok, e = .returned (.tuple #[.int .i64 no, .bool ok]) ∧ Hid (((ok = false ∧ F.old L = none) ∨ (ok = true ∧ ∃ f, F.old L = some f ∧ f.no = no)) ∧ Adds w w')
set_option maxRecDepth 100000 in
theorem Best.done {G : List Tk} {no : Int} {ok : Bool} (h : Best G no ok) (ha : G.Pairwise (fun a b => a.age < b.age)) : (ok = false ∧ F.old (G.map (·.f)) = none) ∨ (ok = true ∧ ∃ f, F.old (G.map (·.f)) = some f ∧ f.no = no) := by
  rcases h with ⟨h1, h2⟩ | ⟨h1, u, hu, h2, h3, h4⟩
  · refine .inl ⟨h1, ?_⟩
    unfold F.old
    rw [List.find?_eq_none]
    intro f hf
    obtain ⟨t, ht, rfl⟩ := List.mem_map.1 hf
    rw [h2 t ht]
    decide
  · refine .inr ⟨h1, u.f, ?_, h3⟩
    have key : ∀ l : List Tk, l.Pairwise (fun a b => a.age < b.age) → u ∈ l → (∀ v ∈ l, F.clean v.f = true → u.age ≤ v.age) → (l.map (·.f)).find? F.clean = some u.f := by
      intro l
      induction l with
      | nil => intro _ q; cases q
      | cons x l ih =>
        intro hp hm hle
        obtain ⟨p1, p2⟩ := List.pairwise_cons.1 hp
        rw [List.map_cons, List.find?_cons]
        rcases List.mem_cons.1 hm with rfl | hm
        · rw [h2]
        · have hx : F.clean x.f = false := by
            cases hq : F.clean x.f
            · rfl
            · have := p1 u hm
              have := hle x List.mem_cons_self hq
              omega
          rw [hx]
          exact ih p2 hm (fun v hv hc => hle v (List.mem_cons_of_mem _ hv) hc)
    exact key G ha hu h4
end Go.Proofs.YtjlennpoaefllaaGreatDoor

/- The pool's call oldest. -/
namespace Go.Proofs.YtjlennpoaefllaaGreatDoor
open Go.RowKit

theorem perm_move {G D T T' : List Tk} {t : Tk} (h1 : G.Perm (D ++ T)) (h2 : T.Perm (t :: T')) : G.Perm ((t :: D) ++ T') :=
  h1.trans ((List.Perm.append_left D h2).trans (by simp [List.perm_middle]))
set_option maxRecDepth 100000 in
/-- Clean is the state 0. -/
theorem st_clean (f : F.Fr) : decide (F.st f = 0) = F.clean f := by
  unfold F.st F.clean
  cases f.fresh <;> cases f.dirty <;> simp
set_option maxRecDepth 100000 in
set_option maxHeartbeats 4000000 in
theorem oldest_any {w : World} {O : Nat → Prop} {p dp : Nat} {s : F.Po} {hb : Nat} {y : Int} {G : List Tk} (h : PoolAt w O p dp s hb y G) : Calls Tryz.prog 129 #[Ptr p, .func (.func 130) #[] #[]] w (POld w s.L) := by
  have c4 : w.cell? ⟨p, 4, none⟩ = some (.map (some hb)) := cellOf h.box 4
  have HP := hid h
  have HMP := hid h.mp
  unfold Ptr
  clear h
  go_enter Tryz.func129, Tryz.ntmps129
  go_wp2_with (first | (at_range; refine wpList_range_p rfl _ 87 rfl 3 131 Tryz.underlying87 hb rfl HMP.out ?_; intro w0 hR0 hA0 hs0) | go_in)
  have HR0 := hid hR0
  have HA0 := hid hA0
  clear hR0 hA0 hs0
  go_frame
  go_loopw [4, 5] (fun nv okv wr => ∃ (no : Int) (ok : Bool), nv = .int .i64 no ∧ okv = .bool ok ∧ Hid (∃ D T : List Tk, G.Perm (D ++ T) ∧ Rg wr hb w.heap.size (G.map Tk.pr) (T.map Tk.pr) ∧ Adds w wr ∧ Best D no ok)) (fun _ _ wr => wr.rangeLeft hb w.heap.size)
  case atStart => exact ⟨0, false, rfl, rfl, [], G, List.Perm.refl _, HR0.out, HA0.out, Best.nil⟩
  case round =>
    obtain ⟨no, ok, rfl, rfl, HI⟩ := hrel
    obtain ⟨D, T, hG, hR, hA, hB⟩ := HI.out
    have HR := hid hR
    have HG := hid hG
    have HA := hid hA
    have HB := hid hB
    clear hR hG hA hB HI
    go_wp2_with (first | (at_next; refine wpList_next_t rfl _ rfl hb w.heap.size rfl HR.out ?_ ?_) | go_in)
    · intro hT0
      subst hT0
      go_wp2
      go_ret2
      refine ⟨no, ok, rfl, ?_, HA.out⟩
      rw [HP.out.L]
      exact (HB.out.perm (by have := HG.out; rw [List.append_nil] at this; exact this.symm)).done HP.out.age
    · intro t T' w1 hp hR1 hT1 hen
      have HMv := hid (perm_move HG.out hp)
      have HLn := hid (show T.length = T'.length + 1 by simpa using hp.length_eq)
      have HA1 := hid (show Adds w w1 from HA.out.then hT1 (fun i hi e => by omega))
      have HR1 := hid hR1
      have htG : t ∈ G := HMv.out.mem_iff.2 (by simp)
      have HP1 := hid (HP.out.adds HA1.out)
      have HTk := hid (HP1.out.at' t htG)
      clear hp hR1 hT1
      have HC := hid (fun n (q : Bool) (hq : F.clean t.f = q) => show Calls Tryz.prog 130 #[.pointer (some ⟨t.b, 0, none⟩)] (w1.drewN n) (Tells (.bool q) (w1.drewN n)) by
        obtain ⟨g, o, c, hbx, _⟩ := (HTk.out.touch (adds_drewN w1 n) (fun _ _ => id)).now
        exact isClean_any _ t.b (F.st t.f) q (by rw [st_clean, hq]) (cellOf hbx 1))
      have d4 : w1.cell? ⟨p, 4, none⟩ = some (.map (some hb)) := cellOf HP1.out.box 4
      have da : w1.cell? ⟨t.b, 2, none⟩ = some (.int .i64 t.age) := by obtain ⟨g, o, c, hbx, _⟩ := HTk.out.now; exact cellOf hbx 2
      go_upto_region 4 with fail
      by_cases hc : F.clean t.f = true
      · have HCT := hid hc
        have HC1 := hid (fun n => HC.out n true hc)
        clear hc HC
        cases ok with
        | false =>
          go_quiet (first | (go_at_call 130; refine Calls.quiet_of_same (HC1.out _)))
          go_wp2
          go_roundw
          case rel => exact ⟨t.f.no, true, rfl, rfl, t :: D, T', HMv.out, HR1.out.touch (adds_drewN w1 _) id id, HA1.out.trans (adds_drewN w1 _), HB.out.first HCT.out⟩
          case measure => rw [(HR1.out.touch (adds_drewN w1 nq) id id).left, HR.out.left, List.length_map, List.length_map, HLn.out]; omega
        | true =>
          obtain ⟨u, hu, huc, hun, hule⟩ := HB.out.found
          subst hun
          have huG : u ∈ G := HG.out.mem_iff.2 (List.mem_append_left _ hu)
          have HU := hid (And.intro hu (And.intro huc hule))
          have db : w1.cell? ⟨u.b, 2, none⟩ = some (.int .i64 u.age) := by obtain ⟨g, o, c, hbx, _⟩ := (HP1.out.at' u huG).now; exact cellOf hbx 2
          have hl : ∀ n, (Instr.lookup 87 (.map (some hb)) (.int .i64 u.f.no) false).run Tryz.prog (w1.drewN n) = .ok (.pointer (some ⟨u.b, 0, none⟩)) (w1.drewN n) := fun n => by
            have q := (HP1.out.mp.touch (hT := (adds_drewN w1 n)) id).look (P := Tryz.prog) Tryz.underlying87 Tryz.underlying3 (zeroPF _) u.f.no
            rw [show lk (G.map Tk.pr) u.f.no = .pointer (some ⟨u.b, 0, none⟩) from lk_some HP.out.mp.once (List.mem_map_of_mem (f := Tk.pr) huG)] at q
            exact q
          clear hu huc hule
          by_cases hlt : t.age < u.age
          · have hlt' : decide (t.age < u.age) = true := by simpa using hlt
            have HLT := hid hlt
            clear hlt
            go_quiet (first | (go_at_call 130; refine Calls.quiet_of_same (HC1.out _)))
            go_wp2
            go_roundw
            case rel => exact ⟨t.f.no, true, rfl, rfl, t :: D, T', HMv.out, HR1.out.touch (adds_drewN w1 _) id id, HA1.out.trans (adds_drewN w1 _), Best.older HU.out.2.2 HCT.out HLT.out⟩
            case measure => rw [(HR1.out.touch (adds_drewN w1 nq) id id).left, HR.out.left, List.length_map, List.length_map, HLn.out]; omega
          · have hlt' : decide (t.age < u.age) = false := by simpa using hlt
            have HLT := hid hlt
            clear hlt
            go_quiet (first | (go_at_call 130; refine Calls.quiet_of_same (HC1.out _)))
            go_wp2
            go_roundw
            case rel => exact ⟨u.f.no, true, rfl, rfl, t :: D, T', HMv.out, HR1.out.touch (adds_drewN w1 _) id id, HA1.out.trans (adds_drewN w1 _), Best.stays HU.out.1 HU.out.2.1 HU.out.2.2 HLT.out⟩
            case measure => rw [(HR1.out.touch (adds_drewN w1 nq) id id).left, HR.out.left, List.length_map, List.length_map, HLn.out]; omega
      · have hc' : F.clean t.f = false := by simpa using hc
        have HCF := hid hc'
        have HC1 := hid (fun n => HC.out n false hc')
        clear hc hc' HC
        go_quiet (first | (go_at_call 130; refine Calls.quiet_of_same (HC1.out _)))
        go_wp2
        go_roundw
        case rel => exact ⟨no, ok, rfl, rfl, t :: D, T', HMv.out, HR1.out.touch (adds_drewN w1 _) id id, HA1.out.trans (adds_drewN w1 _), HB.out.same HCF.out⟩
        case measure => rw [(HR1.out.touch (adds_drewN w1 nq) id id).left, HR.out.left, List.length_map, List.length_map, HLn.out]; omega
end Go.Proofs.YtjlennpoaefllaaGreatDoor

/- Room is made; a page is held. -/
namespace Go.Proofs.YtjlennpoaefllaaGreatDoor
open Go.RowKit

/-- Without a page's frame. -/
def gs (G : List Tk) (k : Int) : List Tk := G.filter fun t => decide (t.f.no ≠ k)
set_option maxRecDepth 100000 in
theorem gs_pr (G : List Tk) (k : Int) : sans (G.map Tk.pr) k = (gs G k).map Tk.pr := by
  unfold sans gs
  rw [List.filter_map]
  rfl
set_option maxRecDepth 100000 in
theorem gs_f (G : List Tk) (k : Int) : F.sansF (G.map (·.f)) k = (gs G k).map (·.f) := by
  unfold F.sansF gs
  rw [List.filter_map]
  rfl
set_option maxRecDepth 100000 in
theorem gs_mem {G : List Tk} {k : Int} {t : Tk} : t ∈ gs G k ↔ t ∈ G ∧ t.f.no ≠ k := by simp [gs]
set_option maxRecDepth 100000 in
theorem sub_flat {G H : List Tk} (h : G.Sublist H) : (G.flatMap Tk.bl).Sublist (H.flatMap Tk.bl) := by
  induction h with
  | slnil => exact List.Sublist.refl _
  | cons a _ ih => rw [List.flatMap_cons]; exact ih.trans (List.sublist_append_right _ _)
  | cons_cons a _ ih => rw [List.flatMap_cons, List.flatMap_cons]; exact ih.append_left _
theorem gs_sub (G : List Tk) (k : Int) : (gs G k).Sublist G := List.filter_sublist
set_option maxRecDepth 100000 in
/-- A map's block holds no frame. -/
theorem FrAt.atMap {w w' : World} {O : Nat → Prop} {b hb : Nat} {bs : List UInt8} {s age : Int} {wp : Value} (h : FrAt w O b bs s age wp) {l : List (Int × Nat)} (hm : MP w hb l) (hT : Touch (fun k => k = hb) w w') : FrAt w' O b bs s age wp := by
  obtain ⟨g, o, c, h1, h2, h3, h4, h5, h6⟩ := h
  obtain ⟨es, clock, hm, _⟩ := hm
  refine ⟨g, o, c, by rw [hT.block b (Array.getElem?_eq_some_iff.1 h1).1 (fun e => by subst e; rw [hm] at h1; cases h1)]; exact h1, h2, h3, h4, h5, h6.block (fun b' o' e hb => by
    cases e
    refine hT.block _ hb (fun e => ?_)
    subst e
    obtain ⟨b', o2, e', hc⟩ := h6 0 (bs[0]'(by omega)) (by simp)
    cases e'
    simp [World.cell?, hm] at hc)⟩
set_option maxRecDepth 100000 in
theorem no_byteP {w : World} {p dp hb : Nat} {y : Int} {q : F.Po} (h1 : w.heap[p]? = some (PBox dp q hb y)) (j : Nat) (z : Int) : w.cell? ⟨p, j, none⟩ ≠ some (.int .u8 z) := by
  rw [cellOf h1]
  intro e
  match j, e with
  | 0, e => cases e
  | 1, e => cases e
  | 2, e => cases e
  | 3, e => cases e
  | 4, e => cases e
  | 5, e => cases e
  | j + 6, e => simp at e
set_option maxRecDepth 100000 in
/-- A pool's struct holds no frame. -/
theorem FrAt.atPool {w w' : World} {O : Nat → Prop} {b p dp hb : Nat} {bs : List UInt8} {s age y : Int} {wp : Value} {q : F.Po} (h : FrAt w O b bs s age wp) (hm : w.heap[p]? = some (PBox dp q hb y)) (hT : Touch (fun k => k = p) w w') : FrAt w' O b bs s age wp := by
  obtain ⟨g, o, c, h1, h2, h3, h4, h5, h6⟩ := h
  refine ⟨g, o, c, by rw [hT.block b (Array.getElem?_eq_some_iff.1 h1).1 (fun e => by subst e; rw [hm] at h1; cases h1)]; exact h1, h2, h3, h4, h5, h6.block (fun b' o' e hb => by
    cases e
    refine hT.block _ hb (fun e => ?_)
    subst e
    obtain ⟨b', o2, e', hc⟩ := h6 0 (bs[0]'(by omega)) (by simp)
    cases e'
    exact no_byteP hm _ _ hc)⟩
set_option maxRecDepth 100000 in
theorem WsAt.atMap {w w' : World} {O : Nat → Prop} {g o c hb : Nat} {bs : List UInt8} (h : WsAt w O g o c bs) {l : List (Int × Nat)} (hm : MP w hb l) (hT : Touch (fun k => k = hb) w w') : WsAt w' O g o c bs := by
  obtain ⟨es, clock, hm, _⟩ := hm
  refine ⟨h.own, h.cap, h.len, h.at'.block (fun b' o' e hb => ?_)⟩
  cases e
  refine hT.block _ hb (fun e => ?_)
  subst e
  obtain ⟨b', o2, e', hc⟩ := h.at' 0 (bs[0]'(by have := h.len; omega)) (by simp)
  cases e'
  simp [World.cell?, hm] at hc
set_option maxRecDepth 100000 in
theorem WsAt.atPool {w w' : World} {O : Nat → Prop} {g o c p dp hb : Nat} {y : Int} {q : F.Po} {bs : List UInt8} (h : WsAt w O g o c bs) (hm : w.heap[p]? = some (PBox dp q hb y)) (hT : Touch (fun k => k = p) w w') : WsAt w' O g o c bs := by
  refine ⟨h.own, h.cap, h.len, h.at'.block (fun b' o' e hb => ?_)⟩
  cases e
  refine hT.block _ hb (fun e => ?_)
  subst e
  obtain ⟨b', o2, e', hc⟩ := h.at' 0 (bs[0]'(by have := h.len; omega)) (by simp)
  cases e'
  exact no_byteP hm _ _ hc
theorem TkAt.atMap {w w' : World} {O : Nat → Prop} {hb : Nat} {t : Tk} (h : TkAt w O t) {l : List (Int × Nat)} (hm : MP w hb l) (hT : Touch (fun k => k = hb) w w') : TkAt w' O t :=
  ⟨h.now.atMap hm hT, fun e => (h.was e).atMap hm hT⟩
theorem TkAt.atPool {w w' : World} {O : Nat → Prop} {p dp hb : Nat} {y : Int} {q : F.Po} {t : Tk} (h : TkAt w O t) (hm : w.heap[p]? = some (PBox dp q hb y)) (hT : Touch (fun k => k = p) w w') : TkAt w' O t :=
  ⟨h.now.atPool hm hT, fun e => (h.was e).atPool hm hT⟩
set_option maxRecDepth 100000 in
theorem PoolAt.pne {w : World} {O : Nat → Prop} {p dp : Nat} {s : F.Po} {hb : Nat} {y : Int} {G : List Tk} (h : PoolAt w O p dp s hb y G) : p ≠ hb := by
  obtain ⟨es, clock, hm, _⟩ := h.mp
  intro e
  have := h.box
  rw [e, hm] at this
  cases this
set_option maxRecDepth 100000 in
/-- An entry is taken out. -/
theorem PoolAt.del {w w' : World} {O : Nat → Prop} {p dp : Nat} {s : F.Po} {hb : Nat} {y : Int} {G : List Tk} (h : PoolAt w O p dp s hb y G) (k : Int) (hm : MP w' hb (sans (G.map Tk.pr) k)) (hT : Touch (fun j => j = hb) w w') : PoolAt w' O p dp { s with L := F.sansF s.L k } hb y (gs G k) := by
  refine ⟨?_, by rw [← gs_pr]; exact hm, ?_, fun t ht => (h.at' t (gs_mem.1 ht).1).atMap h.mp hT, h.nd.sublist (sub_flat (gs_sub G k)), h.age.sublist (gs_sub G k), fun t ht => h.le t (gs_mem.1 ht).1, h.y0, h.op, h.oh⟩
  · rw [hT.block p (Array.getElem?_eq_some_iff.1 h.box).1 h.pne]; exact h.box
  · show F.sansF s.L k = _
    rw [h.L, gs_f]
set_option maxRecDepth 100000 in
/-- The next age. -/
theorem PoolAt.tick {w : World} {O : Nat → Prop} {p dp : Nat} {s : F.Po} {hb : Nat} {y : Int} {G : List Tk} (h : PoolAt w O p dp s hb y G) : PoolAt (w.setCell ⟨p, 5, none⟩ (.int .i64 (y + 1))) O p dp s hb (y + 1) G := by
  have hT : Touch (fun k => k = p) w (w.setCell ⟨p, 5, none⟩ (.int .i64 (y + 1))) := Touch.setCell (T := fun k => k = p) (Touch.refl _ w) (p := ⟨p, 5, none⟩) (fun _ => rfl) _
  refine ⟨heap_setCell_same w p 5 _ 89 _ h.box, h.mp.touch hT (fun e => h.pne e.symm), h.L, fun t ht => (h.at' t ht).atPool h.box hT, h.nd, h.age, fun t ht => by have := h.le t ht; omega, by have := h.y0; omega, h.op, h.oh⟩
set_option maxRecDepth 100000 in
/-- A frame's struct gets its age. -/
theorem FrAt.aged {w : World} {O : Nat → Prop} {b : Nat} {bs : List UInt8} {s age : Int} {wp : Value} (h : FrAt w O b bs s age wp) (hw : ∀ z, wp ≠ .int .u8 z) (a : Int) : FrAt (w.setCell ⟨b, 2, none⟩ (.int .i64 a)) O b bs s a wp ∧ Touch (fun k => k = b) w (w.setCell ⟨b, 2, none⟩ (.int .i64 a)) := by
  obtain ⟨g, o, c, h1, h2, h3, h4, h5, h6⟩ := h
  have hT : Touch (fun k => k = b) w (w.setCell ⟨b, 2, none⟩ (.int .i64 a)) := Touch.setCell (T := fun k => k = b) (Touch.refl _ w) (p := ⟨b, 2, none⟩) (fun _ => rfl) _
  refine ⟨⟨g, o, c, heap_setCell_same w b 2 _ 134 _ h1, h2, h3, h4, h5, h6.block (fun b' o' e hb => by cases e; exact hT.block _ hb (FrAt.ne h1 h6 h5 hw))⟩, hT⟩
set_option maxRecDepth 100000 in
/-- A page is held in a frame that is the youngest. -/
theorem PoolAt.hold {w w' : World} {O : Nat → Prop} {p dp : Nat} {s : F.Po} {hb : Nat} {y : Int} {G : List Tk} (h : PoolAt w O p dp s hb y G) {t : Tk} (ht : TkAt w O t) (hap : ((gs G t.f.no).flatMap Tk.bl ++ t.bl).Nodup) (hlt : ∀ u ∈ G, u.f.no ≠ t.f.no → u.age < y)
    {w1 : World} (hw1 : w1 = w.setCell ⟨t.b, 2, none⟩ (.int .i64 y)) (hm : MP w' hb (sans (G.map Tk.pr) t.f.no ++ [(t.f.no, t.b)])) (hT : Touch (fun j => j = hb) w1 w') :
    PoolAt w' O p dp { s with L := F.sansF s.L t.f.no ++ [t.f] } hb y (gs G t.f.no ++ [{ t with age := y }]) ∧ Touch (fun k => k = hb ∨ k = t.b) w w' := by
  obtain ⟨h1, h2⟩ := ht.now.aged t.wp_no y
  rw [← hw1] at h1 h2
  obtain ⟨g0, o0, c0, hb0, _⟩ := ht.now
  have hpb : p ≠ t.b := fun e => by have := h.box; rw [e, hb0] at this; cases this
  have hhb : hb ≠ t.b := fun e => by obtain ⟨es, clock, hm, _⟩ := h.mp; rw [e, hb0] at hm; cases hm
  have hmp1 : MP w1 hb (G.map Tk.pr) := h.mp.touch h2 hhb
  have hnd := List.nodup_append.1 hap
  have hT2 : Touch (fun k => k = hb ∨ k = t.b) w w' := (h2.mono (fun _ _ e => .inr e)).trans (hT.mono (fun _ _ e => .inl e))
  have htk : TkAt w1 O { t with age := y } := ⟨h1, fun e => (ht.was e).other hb0 t.wp_no h2⟩
  refine ⟨⟨?_, ?_, ?_, ?_, ?_, ?_, ?_, h.y0, h.op, h.oh⟩, hT2⟩
  · rw [hT2.block p (Array.getElem?_eq_some_iff.1 h.box).1 (fun e => by rcases e with e | e; exact h.pne e; exact hpb e)]; exact h.box
  · rw [List.map_append, ← gs_pr]; exact hm
  · show F.sansF s.L t.f.no ++ [t.f] = _
    rw [h.L, gs_f, List.map_append]; rfl
  · intro u hu
    rcases List.mem_append.1 hu with hu | hu
    · have hu' := gs_mem.1 hu
      have : ¬ t.b ∈ u.bl := fun c => hnd.2.2 t.b (List.mem_flatMap.2 ⟨u, hu, c⟩) t.b (by simp [Tk.bl]) rfl
      exact ((h.at' u hu'.1).other hb0 t.wp_no h2 this).atMap hmp1 hT
    · obtain rfl := List.mem_singleton.1 hu
      exact htk.atMap hmp1 hT
  · rw [List.flatMap_append, List.flatMap_cons, List.flatMap_nil, List.append_nil]
    exact hap
  · rw [List.pairwise_append]
    refine ⟨h.age.sublist (gs_sub G _), by simp, fun u hu v hv => ?_⟩
    obtain rfl := List.mem_singleton.1 hv
    exact hlt u (gs_mem.1 hu).1 (gs_mem.1 hu).2
  · intro u hu
    rcases List.mem_append.1 hu with hu | hu
    · exact h.le u (gs_mem.1 hu).1
    · obtain rfl := List.mem_singleton.1 hu
      exact Int.le_refl _
set_option maxRecDepth 100000 in
set_option maxHeartbeats 1000000 in
theorem hasRoom_any {w : World} {O : Nat → Prop} {p dp : Nat} {s : F.Po} {hb : Nat} {y : Int} {G : List Tk} (h : PoolAt w O p dp s hb y G) (no : Int) : Calls Tryz.prog 92 #[Ptr p, .int .i64 no] w (Adding (.bool (F.room s no)) w) := by
  have HN := hid (needsRoom_any h no)
  have HO := hid (fun w1 (hA : Adds w w1) => oldest_any (h.adds hA))
  have HR : Hid (F.room s no = (!F.need s no || (F.old s.L).isSome)) := rfl
  clear h
  cases hq : F.need s no with
  | false =>
    have hr : F.room s no = true := by rw [HR.out, hq]; rfl
    rw [hr]
    rw [hq] at HN
    go_enter Tryz.func92, Tryz.ntmps92
    go_wp2_with (go_at_call 128; refine HN.out.mono ?_; rintro e w1 ⟨rfl, hA1⟩)
    go_ret
    exact ⟨rfl, hA1⟩
  | true =>
    have hr : F.room s no = (F.old s.L).isSome := by rw [HR.out, hq]; rfl
    rw [hr]
    rw [hq] at HN
    go_enter Tryz.func92, Tryz.ntmps92
    go_wp2_with (first
      | (go_at_call 128; refine HN.out.mono ?_; rintro e w1 ⟨rfl, hA1⟩; have HA1 := hid hA1; clear hA1)
      | (go_at_call 129; refine (HO.out _ HA1.out).mono ?_; rintro e w2 ⟨n2, ok2, rfl, H2⟩))
    go_ret
    refine ⟨?_, HA1.out.trans H2.out.2⟩
    rcases H2.out.1 with ⟨rfl, e⟩ | ⟨rfl, f, e, _⟩
    · rw [e]; rfl
    · rw [e]; rfl
end Go.Proofs.YtjlennpoaefllaaGreatDoor

/- The pool's call hold. -/
namespace Go.Proofs.YtjlennpoaefllaaGreatDoor
open Go.RowKit

/-- What hold leaves. -/
def PHold (w : World) (O : Nat → Prop) (p dp : Nat) (s : F.Po) (hb : Nat) (y : Int) (t : Tk) (e : Ending) (w' : World) : Prop := e = .returned (.tuple #[]) ∧ Hid (∃ G', PoolAt w' O p dp (F.held s t.f.no t.f) hb (y + 1) G' ∧ { t with age := y + 1 } ∈ G' ∧ Touch (fun k => k = p ∨ k = hb ∨ k = t.b) w w')
set_option maxRecDepth 100000 in
theorem hold_fin {w w0 w3 w4 w5 w6 : World} {O : Nat → Prop} {p dp : Nat} {s s3 : F.Po} {hb : Nat} {y : Int} {G3 : List Tk} {t : Tk} (hP : PoolAt w3 O p dp s3 hb y G3) (ht : TkAt w3 O t) (hap : ((gs G3 t.f.no).flatMap Tk.bl ++ t.bl).Nodup) (hs : F.held s t.f.no t.f = { s3 with L := F.sansF s3.L t.f.no ++ [t.f] })
    (hA : Adds w w0) (h03 : Touch (fun k => k = hb) w0 w3) (h4 : w4 = w3.setCell ⟨p, 5, none⟩ (.int .i64 (y + 1))) (h5 : w5 = w4.setCell ⟨t.b, 2, none⟩ (.int .i64 (y + 1))) (hm : MP w6 hb (sans (G3.map Tk.pr) t.f.no ++ [(t.f.no, t.b)])) (hT : Touch (fun j => j = hb) w5 w6) : PHold w O p dp s hb y t (.returned (.tuple #[])) w6 := by
  have hP4 := hP.tick
  have hT4 : Touch (fun k => k = p) w3 (w3.setCell ⟨p, 5, none⟩ (.int .i64 (y + 1))) := Touch.setCell (T := fun k => k = p) (Touch.refl _ w3) (p := ⟨p, 5, none⟩) (fun _ => rfl) _
  have ht4 := ht.atPool hP.box hT4
  rw [← h4] at hP4 hT4 ht4
  obtain ⟨q1, q2⟩ := hP4.hold ht4 hap (fun u hu _ => by have := hP.le u hu; omega) h5 hm hT
  refine ⟨rfl, _, by rw [hs]; exact q1, List.mem_append_right _ (List.mem_singleton.2 rfl), ?_⟩
  have r1 : Touch (fun k => k = p ∨ k = hb ∨ k = t.b) w w3 := (hA.mono (fun _ _ c => c.elim)).trans (h03.mono (fun _ _ e => .inr (.inl e)))
  exact (r1.trans (hT4.mono (fun _ _ e => .inl e))).trans (q2.mono (fun _ _ e => by rcases e with e | e; exact .inr (.inl e); exact .inr (.inr e)))
set_option maxRecDepth 100000 in
set_option maxHeartbeats 4000000 in
theorem bhold_any {w : World} {O : Nat → Prop} {p dp : Nat} {s : F.Po} {hb : Nat} {y : Int} {G : List Tk} (h : PoolAt w O p dp s hb y G) (hy : y ≤ 1000000) {t : Tk} (ht : TkAt w O t) (hap : ((gs G t.f.no).flatMap Tk.bl ++ t.bl).Nodup) (hr : F.room s t.f.no = true) :
    Calls Tryz.prog 93 #[Ptr p, .int .i64 t.f.no, .pointer (some ⟨t.b, 0, none⟩)] w (PHold w O p dp s hb y t) := by
  have HN := hid (needsRoom_any h t.f.no)
  have HO := hid (fun w1 (hA : Adds w w1) => oldest_any (h.adds hA))
  have HY := hid (And.intro h.y0 hy)
  have HP := hid h
  have HT := hid ht
  have HAP := hid hap
  clear h ht hap hy
  unfold Ptr at *
  cases hq : F.need s t.f.no with
  | false =>
    rw [hq] at HN
    have HS := hid (show F.held s t.f.no t.f = { s with L := F.sansF s.L t.f.no ++ [t.f] } by unfold F.held F.out; rw [hq]; rfl)
    clear hq hr
    go_enter Tryz.func93, Tryz.ntmps93
    go_upto_region 3 with (go_at_call 128; refine HN.out.mono ?_; rintro e w1 ⟨rfl, hA1⟩; have HA1 := hid hA1; clear hA1)
    have HP1 := hid (HP.out.adds HA1.out)
    have HT1 := hid (HT.out.touch HA1.out (fun _ _ => id))
    have c5 : w1.cell? ⟨p, 5, none⟩ = some (.int .i64 y) := cellOf HP1.out.box 5
    have f5 : w1.frozen? ⟨p, 5, none⟩ = false := frozen_of_row _ p 5 _ 89 HP1.out.box
    have hw : wrap64 (y + 1) = y + 1 := by have := HY.out; simp [wrap64]; omega
    go_upto_region 4 with fail
    obtain ⟨w4, hw4⟩ : ∃ w4, w4 = w1.setCell ⟨p, 5, none⟩ (.int .i64 (y + 1)) := ⟨_, rfl⟩
    have HP4 := hid (show PoolAt w4 O p dp _ hb (y + 1) _ by rw [hw4]; exact HP1.out.tick)
    have HT4 := hid (show TkAt w4 O t by rw [hw4]; exact HT1.out.atPool HP1.out.box (Touch.setCell (T := fun k => k = p) (Touch.refl _ _) (p := ⟨p, 5, none⟩) (fun _ => rfl) _))
    have HW4 := hid hw4
    rw [← hw4]
    clear hw4 c5 f5
    have e5 : w4.cell? ⟨p, 5, none⟩ = some (.int .i64 (y + 1)) := cellOf HP4.out.box 5
    have e2 : w4.cell? ⟨t.b, 2, none⟩ = some (.int .i64 t.age) := by obtain ⟨g, o, c, hbx, _⟩ := HT4.out.now; exact cellOf hbx 2
    have f2 : w4.frozen? ⟨t.b, 2, none⟩ = false := by obtain ⟨g, o, c, hbx, _⟩ := HT4.out.now; exact frozen_of_row _ t.b 2 _ 134 hbx
    go_upto_region 5 with fail
    obtain ⟨w5, hw5⟩ : ∃ w5, w5 = w4.setCell ⟨t.b, 2, none⟩ (.int .i64 (y + 1)) := ⟨_, rfl⟩
    have HW5 := hid hw5
    have hpb : p ≠ t.b := fun e => by obtain ⟨g, o, c, hbx, _⟩ := HT4.out.now; have := HP4.out.box; rw [e, hbx] at this; cases this
    have hhb : hb ≠ t.b := fun e => by obtain ⟨g, o, c, hbx, _⟩ := HT4.out.now; obtain ⟨es, clock, hm, _⟩ := HP4.out.mp; rw [e, hbx] at hm; cases hm
    have hT5 : Touch (fun k => k = t.b) w4 w5 := by rw [hw5]; exact Touch.setCell (T := fun k => k = t.b) (Touch.refl _ _) (p := ⟨t.b, 2, none⟩) (fun _ => rfl) _
    have g4 : w5.cell? ⟨p, 4, none⟩ = some (.map (some hb)) := by rw [World.cell?_of_block (w := w4) (hT5.block p (Array.getElem?_eq_some_iff.1 HP4.out.box).1 hpb)]; exact cellOf HP4.out.box 4
    have HMP5 := hid (HP4.out.mp.touch hT5 hhb)
    rw [← hw5]
    clear hw5 hT5 e5 e2 f2 hpb hhb
    go_wp2_with (first | (at_mapUpdate; refine wpList_store_p rfl _ _ _ 87 rfl 3 131 Tryz.underlying87 Tryz.underlying3 hb rfl HMP5.out _ rfl _ rfl ?_; intro w6 hm6 hT6 hs6) | go_in)
    go_end0
    exact hold_fin HP1.out HT1.out HAP.out HS.out HA1.out (Touch.refl _ _) HW4.out HW5.out hm6 hT6
  | true =>
    rw [hq] at HN
    obtain ⟨f0, hf0⟩ : ∃ f0, F.old s.L = some f0 := by
      have : (F.old s.L).isSome = true := by have := hr; unfold F.room at this; rw [hq] at this; simpa using this
      exact Option.isSome_iff_exists.1 this
    have HS := hid (show F.held s t.f.no t.f = { s with L := F.sansF (F.sansF s.L f0.no) t.f.no ++ [t.f] } by unfold F.held F.out; rw [hq, hf0]; rfl)
    have HF := hid hf0
    clear hq hr hf0
    go_enter Tryz.func93, Tryz.ntmps93
    go_upto_region 2 with (first
      | (go_at_call 128; refine HN.out.mono ?_; rintro e w1 ⟨rfl, hA1⟩; have HA1 := hid hA1; clear hA1)
      | (go_at_call 129; refine (HO.out _ HA1.out).mono ?_; rintro e w2 ⟨n2, ok2, rfl, H2⟩))
    have HA2 := hid (HA1.out.trans H2.out.2)
    have HP2 := hid (HP.out.adds HA2.out)
    obtain rfl : n2 = f0.no := by
      rcases H2.out.1 with ⟨_, e⟩ | ⟨_, f, e, e2⟩
      · rw [HF.out] at e; cases e
      · rw [HF.out] at e; cases e; exact e2.symm
    have c4 : w2.cell? ⟨p, 4, none⟩ = some (.map (some hb)) := cellOf HP2.out.box 4
    have HMP2 := hid HP2.out.mp
    go_upto_region 3 with (first | (at_delete; refine wpList_delete_p rfl _ _ 87 3 rfl 131 Tryz.underlying87 Tryz.underlying3 hb rfl HMP2.out f0.no rfl ?_; intro w3 hm3 hT3 hs3; have HM3 := hid hm3; have HT3' := hid hT3; clear hm3 hT3 hs3) | go_in)
    have HP3 := hid (HP2.out.del f0.no HM3.out HT3'.out)
    have HT3 := hid ((HT.out.touch HA2.out (fun _ _ => id)).atMap HP2.out.mp HT3'.out)
    have HAP3 := hid (show ((gs (gs G f0.no) t.f.no).flatMap Tk.bl ++ t.bl).Nodup from HAP.out.sublist ((sub_flat ((gs_sub G f0.no).filter _)).append_right _))
    have c5 : w3.cell? ⟨p, 5, none⟩ = some (.int .i64 y) := cellOf HP3.out.box 5
    have f5 : w3.frozen? ⟨p, 5, none⟩ = false := frozen_of_row _ p 5 _ 89 HP3.out.box
    have hw : wrap64 (y + 1) = y + 1 := by have := HY.out; simp [wrap64]; omega
    go_upto_region 4 with fail
    obtain ⟨w4, hw4⟩ : ∃ w4, w4 = w3.setCell ⟨p, 5, none⟩ (.int .i64 (y + 1)) := ⟨_, rfl⟩
    have HP4 := hid (show PoolAt w4 O p dp _ hb (y + 1) _ by rw [hw4]; exact HP3.out.tick)
    have HT4 := hid (show TkAt w4 O t by rw [hw4]; exact HT3.out.atPool HP3.out.box (Touch.setCell (T := fun k => k = p) (Touch.refl _ _) (p := ⟨p, 5, none⟩) (fun _ => rfl) _))
    have HW4 := hid hw4
    rw [← hw4]
    clear hw4 c5 f5
    have e5 : w4.cell? ⟨p, 5, none⟩ = some (.int .i64 (y + 1)) := cellOf HP4.out.box 5
    have e2 : w4.cell? ⟨t.b, 2, none⟩ = some (.int .i64 t.age) := by obtain ⟨g, o, c, hbx, _⟩ := HT4.out.now; exact cellOf hbx 2
    have f2 : w4.frozen? ⟨t.b, 2, none⟩ = false := by obtain ⟨g, o, c, hbx, _⟩ := HT4.out.now; exact frozen_of_row _ t.b 2 _ 134 hbx
    go_upto_region 5 with fail
    obtain ⟨w5, hw5⟩ : ∃ w5, w5 = w4.setCell ⟨t.b, 2, none⟩ (.int .i64 (y + 1)) := ⟨_, rfl⟩
    have HW5 := hid hw5
    have hpb : p ≠ t.b := fun e => by obtain ⟨g, o, c, hbx, _⟩ := HT4.out.now; have := HP4.out.box; rw [e, hbx] at this; cases this
    have hhb : hb ≠ t.b := fun e => by obtain ⟨g, o, c, hbx, _⟩ := HT4.out.now; obtain ⟨es, clock, hm, _⟩ := HP4.out.mp; rw [e, hbx] at hm; cases hm
    have hT5 : Touch (fun k => k = t.b) w4 w5 := by rw [hw5]; exact Touch.setCell (T := fun k => k = t.b) (Touch.refl _ _) (p := ⟨t.b, 2, none⟩) (fun _ => rfl) _
    have g4 : w5.cell? ⟨p, 4, none⟩ = some (.map (some hb)) := by rw [World.cell?_of_block (w := w4) (hT5.block p (Array.getElem?_eq_some_iff.1 HP4.out.box).1 hpb)]; exact cellOf HP4.out.box 4
    have HMP5 := hid (HP4.out.mp.touch hT5 hhb)
    rw [← hw5]
    clear hw5 hT5 e5 e2 f2 hpb hhb
    go_wp2_with (first | (at_mapUpdate; refine wpList_store_p rfl _ _ _ 87 rfl 3 131 Tryz.underlying87 Tryz.underlying3 hb rfl HMP5.out _ rfl _ rfl ?_; intro w6 hm6 hT6 hs6) | go_in)
    go_end0
    exact hold_fin HP3.out HT3.out HAP3.out HS.out HA2.out HT3'.out HW4.out HW5.out hm6 hT6
end Go.Proofs.YtjlennpoaefllaaGreatDoor

/- Whether bytes are a page; a page of the disk in a frame. -/
namespace Go.Proofs.YtjlennpoaefllaaGreatDoor
open Go.RowKit

namespace F
/-- Whether bytes are the page no. -/
def isE (bs : List UInt8) (no : Int) : Nat := match M.readP bs with
  | none => 22
  | some p => if (p.no : Int) ≠ no then 23 else 0
/-- What they are, with 0 in the last four. -/
def uns (bs : List UInt8) (no : Int) : List UInt8 := if isE bs no = 0 then nw bs else []
set_option maxRecDepth 100000 in
theorem nw_len {bs : List UInt8} {p : M.Pg} (h : M.readP bs = some p) : (nw bs).length = 256 := by
  unfold nw
  rw [h]
  exact M.len_pbytes (M.read_ok h).1.room
set_option maxRecDepth 100000 in
theorem nw_read {bs : List UInt8} {p : M.Pg} (h : M.readP bs = some p) : M.readP (nw bs) = some p := by
  unfold nw
  rw [h]
  exact M.read_pbytes (M.read_ok h).1
end F
set_option maxRecDepth 100000 in
theorem open_sealed {bs : List UInt8} {p : M.Pg} (hR : M.readP bs = some p) (no : Int) : M.openE (sealed (bs.take 252)) no = F.isE bs no := by
  obtain ⟨h1, h2, h3⟩ := M.read_ok hR
  have l2 : (bs.take 252).length = 252 := by rw [List.length_take]; omega
  have l3 : (sealed (bs.take 252)).length = 256 := by rw [len_sealed, l2]
  have t3 : (sealed (bs.take 252)).take 252 = bs.take 252 := by
    unfold sealed
    rw [List.take_append_of_le_length (by omega), List.take_of_length_le (by omega)]
  have r3 : M.readP (sealed (bs.take 252)) = some p := M.read_of h1 l3 (by rw [t3, h3])
  unfold M.openE F.isE
  rw [if_neg (by omega), if_neg (by rw [t3]; simp), r3, hR]
set_option maxRecDepth 100000 in
theorem openP_sealed {bs : List UInt8} {p : M.Pg} (hR : M.readP bs = some p) (no : Int) : M.openP (sealed (bs.take 252)) no = F.uns bs no := by
  obtain ⟨h1, h2, h3⟩ := M.read_ok hR
  have l2 : (bs.take 252).length = 252 := by rw [List.length_take]; omega
  have l3 : (sealed (bs.take 252)).length = 256 := by rw [len_sealed, l2]
  have t3 : (sealed (bs.take 252)).take 252 = bs.take 252 := by
    unfold sealed
    rw [List.take_append_of_le_length (by omega), List.take_of_length_le (by omega)]
  have r3 : M.readP (sealed (bs.take 252)) = some p := M.read_of h1 l3 (by rw [t3, h3])
  unfold M.openP F.uns F.isE F.nw
  rw [if_neg (by omega), if_neg (by rw [t3]; simp), r3, hR]
  by_cases c : (p.no : Int) = no <;> simp [c]
set_option maxRecDepth 100000 in
set_option maxHeartbeats 1000000 in
theorem unsealed_any (a : Option Addr) (bs : List UInt8) (n cap : Nat) (no : Int) (w : World) (hn : bs.length = n) (hc : n ≤ cap) (hA : At w a bs) (hT : Tab w) : Calls Tryz.prog 91 #[.slice a n cap, .int .i64 no] w (PTold w (F.uns bs no) (F.isE bs no)) := by
  cases hR : M.readP bs with
  | none =>
    have HS := hid (gseal_none hR a n cap w hn hc hA)
    have hE : F.isE bs no = 22 := by unfold F.isE; rw [hR]
    have hU : F.uns bs no = [] := by unfold F.uns; rw [hE]; rfl
    rw [hE, hU]
    clear hA hn hE hU hR
    go_enter Tryz.func91, Tryz.ntmps91
    go_wp2_with (go_at_call 122; refine HS.out.mono ?_; rintro e w1 ⟨rfl, hA1⟩)
    go_ret2
    exact PTold.nil hA1 rfl rfl
  | some p =>
    have hl := (M.read_ok hR).2.1
    obtain rfl : n = 256 := by omega
    have HS := hid (gseal_some hR a cap w hl hc hA hT)
    have HO := hid (fun (w1 : World) (g c : Nat) (hA1 : Adds w w1) (hc : 256 ≤ c) (hB : At w1 (some ⟨g, 0, none⟩) (sealed (bs.take 252))) (hl : (sealed (bs.take 252)).length = 256) => gopen_any (some ⟨g, 0, none⟩) (sealed (bs.take 252)) 256 c no w1 hl hc hB (hT.adds hA1))
    rw [open_sealed hR no, openP_sealed hR no] at HO
    clear hA hn hR hT
    generalize F.isE bs no = z at *
    generalize F.uns bs no = os at *
    generalize sealed (bs.take 252) = cs at *
    go_enter Tryz.func91, Tryz.ntmps91
    go_wp2_with (first
      | (go_at_call 122; refine HS.out.mono ?_; rintro e w1 ⟨g1, c1, rfl, H1⟩)
      | (go_at_call 127; refine (HO.out w1 g1 c1 H1.out.2.2.2.2 H1.out.2.2.1 (At.own H1.out.2.2.2.1) H1.out.2.1).mono ?_; rintro e w2 ⟨a2, c2, rfl, H2⟩))
    go_ret2
    have hz := H1.out.2.2.2.2.size
    exact ⟨a2, c2, rfl, H2.out.1, H2.out.2.1, ⟨H2.out.2.2.1.1, fun b o e => by have := H2.out.2.2.1.2 b o e; omega⟩, H1.out.2.2.2.2.trans H2.out.2.2.2⟩
/-- What read tells. -/
def PRdF (w : World) (z : Nat) (bs : List UInt8) (e : Ending) (w' : World) : Prop := ∃ v, e = .returned (.tuple #[v, .int .i64 (z : Int)]) ∧ Hid ((z ≠ 0 ∧ v = .pointer none ∧ Adds w w') ∨ (z = 0 ∧ ∃ b, v = .pointer (some ⟨b, 0, none⟩) ∧ FrAt w' (fun k => w.heap.size ≤ k ∧ k < w'.heap.size) b bs 0 0 (.slice none 0 0) ∧ Adds w w'))
end Go.Proofs.YtjlennpoaefllaaGreatDoor

/- A page of the disk in a frame. -/
namespace Go.Proofs.YtjlennpoaefllaaGreatDoor
open Go.RowKit

set_option maxRecDepth 100000 in
theorem openP_len {bs : List UInt8} {no : Int} (h : M.openE bs no = 0) : (M.openP bs no).length = 256 := by
  unfold M.openE at h
  unfold M.openP
  split at h
  · cases h
  · rename_i h1
    rw [if_neg h1]
    split at h
    · cases h
    · rename_i h2
      rw [if_neg h2]
      split at h
      · cases h
      · rename_i p hp
        split at h
        · cases h
        · rename_i h3
          rw [if_neg h3]
          exact M.len_pbytes (M.read_ok hp).1.room
set_option maxRecDepth 100000 in
theorem openP_nil {bs : List UInt8} {no : Int} (h : M.openE bs no ≠ 0) : M.openP bs no = [] := by
  unfold M.openE at h
  unfold M.openP
  split at h
  · rename_i h1; rw [if_pos h1]
  · rename_i h1
    rw [if_neg h1]
    split at h
    · rename_i h2; rw [if_pos h2]
    · rename_i h2
      rw [if_neg h2]
      split at h
      · rfl
      · split at h
        · rename_i h3; rw [if_pos h3]
        · exact absurd rfl h
set_option maxRecDepth 100000 in
set_option maxHeartbeats 2000000 in
theorem bread_any {w : World} {O OD : Nat → Prop} {p dp : Nat} {s : F.Po} {hb : Nat} {y : Int} {G : List Tk} {D : dSt} {n : Nat} (h : PoolAt w O p dp s hb y G) (hd : IsDO w OD dp D) (hk : DOk D n) (hn : n ≤ 900) (hok : POk s D) (hT : Tab w) (no : Int) (hno : 0 ≤ no ∧ no < s.ct) :
    Calls Tryz.prog 139 #[Ptr p, .int .i64 no] w (PRdF w (F.rdE s D no) (F.rdB s D no)) := by
  have HR := hid (hasRoom_any h no)
  have hi : 0 ≤ s.fr + no ∧ s.fr + no < D.size := by have := hok.fr0; have := hok.fit; omega
  have hwr : wrap64 (s.fr + no) = s.fr + no := by have := hok.fr0; have := hok.fit; have := hok.size; simp [wrap64]; omega
  have hwi : IntKind.i64.wrap (s.fr + no) = s.fr + no := by rw [IntKind.wrap_i64]; have := hok.fr0; have := hok.fit; have := hok.size; omega
  have HB := hid (fun w1 (hA : Adds w w1) => show w1.heap[p]? = some (PBox dp s hb y) from (h.adds hA).box)
  have HE : Hid (F.rdE s D no = if F.room s no then (if D.left = 0 then 10 else M.openE (hasOf D.H D.W (s.fr + no)) no) else 33) := rfl
  have HBs : Hid (F.rdB s D no = M.openP (hasOf D.H D.W (s.fr + no)) no) := rfl
  have HOf := hid (fun w1 (hA : Adds w w1) (hon : D.left = 0) => dread_off (hd.adds hA) hk hon (s.fr + no) hi)
  have HOn := hid (fun w1 (hA : Adds w w1) (hon : D.left ≠ 0) => dread_any (hd.adds hA) hk hn hon (s.fr + no) hi)
  have HTb := hid hT
  unfold Ptr at *
  clear h hd hk hok hT hi hno
  cases hq : F.room s no with
  | false =>
    rw [hq] at HR
    have hE : F.rdE s D no = 33 := by rw [HE.out, hq]; rfl
    rw [hE]
    clear hq HE hE
    go_enter Tryz.func139, Tryz.ntmps139
    go_wp2_with (go_at_call 92; refine HR.out.mono ?_; rintro e w1 ⟨rfl, hA1⟩; have HA1 := hid hA1; clear hA1)
    go_ret2
    exact ⟨_, rfl, .inl ⟨by decide, rfl, HA1.out⟩⟩
  | true =>
    rw [hq] at HR
    by_cases hon : D.left = 0
    · have hE : F.rdE s D no = 10 := by rw [HE.out, hq, hon]; rfl
      rw [hE]
      have HOf' := hid (fun w1 hA => HOf.out w1 hA hon)
      clear hq HE hE hon HOf HOn
      go_enter Tryz.func139, Tryz.ntmps139
      go_upto_region 3 with (go_at_call 92; refine HR.out.mono ?_; rintro e w1 ⟨rfl, hA1⟩; have HA1 := hid hA1; clear hA1)
      have c0 : w1.cell? ⟨p, 0, none⟩ = some (.pointer (some ⟨dp, 0, none⟩)) := cellOf (HB.out w1 HA1.out) 0
      have c1 : w1.cell? ⟨p, 1, none⟩ = some (.int .i64 s.fr) := cellOf (HB.out w1 HA1.out) 1
      go_quiet (first | (go_at_call 153; refine Calls.quiet_of_same (HOf'.out _ (HA1.out.trans (adds_drewN _ _)))))
      go_wp2
      go_ret2
      exact ⟨_, rfl, .inl ⟨by decide, rfl, HA1.out.trans (adds_drewN _ _)⟩⟩
    · have hE : F.rdE s D no = M.openE (hasOf D.H D.W (s.fr + no)) no := by rw [HE.out, hq, if_neg hon]; rfl
      rw [hE, HBs.out]
      have HOn' := hid (fun w1 hA (z : Int) (hz : z = s.fr + no) => show Calls Tryz.prog 153 #[.pointer (some ⟨dp, 0, none⟩), .int .i64 z] w1 (PSec w1 (hasOf D.H D.W (s.fr + no))) by rw [hz]; exact HOn.out w1 hA hon)
      have HWR := hid (And.intro hwr hwi)
      generalize hasOf D.H D.W (s.fr + no) = bs at *
      have HOp := hid (fun (w2 : World) (g c : Nat) (hA : Adds w w2) (hc : 256 ≤ c) (hl : bs.length = 256) (hB : At w2 (some ⟨g, 0, none⟩) bs) => gopen_any (some ⟨g, 0, none⟩) bs 256 c no w2 hl hc hB (HTb.out.adds hA))
      have HL := hid (And.intro (@openP_len bs no) (@openP_nil bs no))
      clear hq HE hE hon HOf HOn HBs
      generalize M.openE bs no = z at *
      generalize M.openP bs no = cs at *
      go_enter Tryz.func139, Tryz.ntmps139
      go_upto_region 3 with (go_at_call 92; refine HR.out.mono ?_; rintro e w1 ⟨rfl, hA1⟩; have HA1 := hid hA1; clear hA1)
      have c0 : w1.cell? ⟨p, 0, none⟩ = some (.pointer (some ⟨dp, 0, none⟩)) := cellOf (HB.out w1 HA1.out) 0
      have c1 : w1.cell? ⟨p, 1, none⟩ = some (.int .i64 s.fr) := cellOf (HB.out w1 HA1.out) 1
      go_cut [6, 7] (fun v6 v7 w2 => ∃ g c, v6 = .slice (some ⟨g, 0, none⟩) 256 c ∧ v7 = .int .i64 0 ∧ Hid (At w2 (some ⟨g, 0, none⟩) bs ∧ bs.length = 256 ∧ 256 ≤ c ∧ Adds w1 w2))
      case first =>
        go_region_with (go_at_call 153; refine (HOn'.out _ (HA1.out.trans (Touch.refl _ w1).drew) _ (by first | rfl | exact HWR.out.1 | exact HWR.out.2)).mono ?_; rintro e w2 ⟨g2, c2, rfl, H2⟩)
        all_goals
          go_wp2
          go_meet
          case rel => exact ⟨g2, c2, rfl, rfl, H2.out.1, H2.out.2.1, H2.out.2.2.1, ((Touch.refl _ w1).drew).trans H2.out.2.2.2.2⟩
      case rest =>
        obtain ⟨g2, c2, rfl, rfl, H2⟩ := hcut
        have HA2 := hid (HA1.out.trans H2.out.2.2.2)
        by_cases hz : z = 0
        · have hl : cs.length = 256 := HL.out.1 hz
          have HCL := hid hl
          subst hz
          clear hl
          go_wp2_with (go_at_call 127; refine (HOp.out _ g2 c2 HA2.out H2.out.2.2.1 H2.out.2.1 H2.out.1).mono ?_; rintro e w3 ⟨a3, c3, rfl, H3⟩; rw [HCL.out])
          go_ret2
          obtain ⟨b, o, ea⟩ := H3.out.1.ad (by rw [HCL.out]; decide)
          subst ea
          have hA3 := HA2.out.trans H3.out.2.2.2
          have hsz := hA3.size
          have hge := H3.out.2.2.1.2 b o rfl
          have hlt : b < w3.heap.size := by
            obtain ⟨b', o', e', hc⟩ := H3.out.1 0 (cs[0]'(by rw [HCL.out]; decide)) (by simp)
            cases e'
            exact World.block_lt_of_cell? _ _ hc
          have hz2 := HA2.out.size
          refine ⟨_, rfl, .inr ⟨rfl, _, rfl, ⟨b, o, c3, heap_alloc_new w3 _, ⟨hsz, by simp⟩, ⟨by omega, by simp; omega⟩, by have := H3.out.2.1; rw [HCL.out] at this; exact this, HCL.out, H3.out.1.adds ((Touch.refl _ w3).alloc _)⟩, hA3.alloc _⟩⟩
        · have hz' : ((z : Int) != 0) = true := by simp; omega
          have HZ := hid hz
          clear hz
          go_wp2_with (go_at_call 127; refine (HOp.out _ g2 c2 HA2.out H2.out.2.2.1 H2.out.2.1 H2.out.1).mono ?_; rintro e w3 ⟨a3, c3, rfl, H3⟩)
          go_ret2
          exact ⟨_, rfl, .inl ⟨HZ.out, rfl, HA2.out.trans H3.out.2.2.2⟩⟩
end Go.Proofs.YtjlennpoaefllaaGreatDoor
