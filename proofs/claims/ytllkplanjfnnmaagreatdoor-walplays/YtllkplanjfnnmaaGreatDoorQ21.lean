/- Texts put together: WWrite, WApp. -/
import Derived.Test.YtllkplanjfnnmaaGreatDoorQ19
import Derived.Test.YtllkplanjfnnmaaGreatDoorQ20
/- A group is written. -/
namespace Go.Proofs.YtllkplanjfnnmaaGreatDoor
open Go.RowKit

/-- A disk, all of whose blocks are of O. -/
def IsDO (w : World) (O : Nat → Prop) (p : Nat) (D : dSt) : Prop := ∃ hb wv, IsDisk w 0 p hb wv D ∧ O p ∧ O hb ∧ ∀ k, wv.ownBlock = some k → O k
set_option maxRecDepth 100000 in
theorem IsDO.touch {w w' : World} {O T : Nat → Prop} {p : Nat} {D : dSt} (h : IsDO w O p D) (hT : Touch T w w') (hn : ∀ k, O k → ¬ T k) : IsDO w' O p D := by
  obtain ⟨hb, wv, hd, h1, h2, h3⟩ := h
  exact ⟨hb, wv, hd.kept hT (hn _ h1) (hn _ h2) (fun k hk => hn k (h3 k hk)), h1, h2, h3⟩
theorem IsDO.adds {w w' : World} {O : Nat → Prop} {p : Nat} {D : dSt} (h : IsDO w O p D) (hT : Adds w w') : IsDO w' O p D := h.touch hT (fun _ _ => id)
set_option maxRecDepth 100000 in
theorem IsDO.mono {w : World} {O O' : Nat → Prop} {p : Nat} {D : dSt} (h : IsDO w O p D) (hn : ∀ k, O k → O' k) : IsDO w O' p D := by
  obtain ⟨hb, wv, hd, h1, h2, h3⟩ := h
  exact ⟨hb, wv, hd, hn _ h1, hn _ h2, fun k hk => hn k (h3 k hk)⟩
/-- A disk's numbers are within bounds. -/
structure DOk (D : dSt) (k : Nat) : Prop where
  waits : D.W.length ≤ k
  steps0 : 0 ≤ D.steps
  steps1 : D.steps ≤ k
  left0 : -1 ≤ D.left
  left1 : D.left ≤ 9223372036854775807
  size : 0 < D.size
set_option maxRecDepth 100000 in
theorem DOk.wrote {D : dSt} {k : Nat} (h : DOk D k) (i : Int) (bs : List UInt8) : DOk (D.wrote i bs) (k + 1) := by
  have h0 := h.left0
  have h1 := h.left1
  refine ⟨?_, ?_, ?_, ?_, ?_, h.size⟩
  · show (D.W ++ [(i, bs)]).length ≤ k + 1
    have := h.waits
    rw [List.length_append]; simp; omega
  · show 0 ≤ D.steps + 1
    have := h.steps0; omega
  · show D.steps + 1 ≤ _
    have := h.steps1; omega
  · show -1 ≤ less D.left
    unfold less; split <;> omega
  · show less D.left ≤ _
    unfold less; split <;> omega
set_option maxRecDepth 100000 in
theorem DOk.synced {D : dSt} {k : Nat} (h : DOk D k) : DOk D.synced (k + 1) := by
  have h0 := h.left0
  have h1 := h.left1
  refine ⟨Nat.zero_le _, ?_, ?_, ?_, ?_, h.size⟩
  · show 0 ≤ D.steps + 1
    have := h.steps0; omega
  · show D.steps + 1 ≤ _
    have := h.steps1; omega
  · show -1 ≤ less D.left
    unfold less; split <;> omega
  · show less D.left ≤ _
    unfold less; split <;> omega
theorem DOk.mono {D : dSt} {k j : Nat} (h : DOk D k) (hj : k ≤ j) : DOk D j := ⟨Nat.le_trans h.waits hj, h.steps0, by have := h.steps1; omega, h.left0, h.left1, h.size⟩
/-- r writes, from number i on, and a sync: the answer, and the disk behind it. -/
def goW (f : Nat → Int × List UInt8) : Nat → Nat → dSt → Int × dSt
  | 0, _, D => if D.left = 0 then (10, D) else (0, D.synced)
  | r + 1, i, D => if D.left = 0 then (10, D) else goW f r (i + 1) (D.wrote (f i).1 (f i).2)
theorem goW_ok {f : Nat → Int × List UInt8} : ∀ {r i : Nat} {D : dSt} {k : Nat}, DOk D k → DOk (goW f r i D).2 (k + r + 1)
  | 0, i, D, k, h => by
    unfold goW
    split
    · exact h.mono (by omega)
    · exact h.synced
  | r + 1, i, D, k, h => by
    unfold goW
    split
    · exact h.mono (by omega)
    · exact (goW_ok (r := r) (i := i + 1) (h.wrote _ _)).mono (by omega)
def fW (fr ep us : Nat) (g : List UInt8) (i : Nat) : Int × List UInt8 := (((fr + us + i : Nat) : Int), W.laid ep us g i)
/-- What write leaves. -/
def PWr (w : World) (O : Nat → Prop) (p : Nat) (x : Int × dSt) (e : Ending) (w' : World) : Prop := e = .returned (.int .i64 x.1) ∧ ∃ O', IsDO w' O' p x.2 ∧ Touch O w w' ∧ ∀ k, O' k → O k ∨ (w.heap.size ≤ k ∧ k < w'.heap.size)
/-- Write, by the disk's state. -/
def PWo (w : World) (O : Nat → Prop) (p : Nat) (z : Int) (D : dSt) (e : Ending) (w' : World) : Prop := e = .returned (.int .i64 z) ∧ Hid (∃ O', IsDO w' O' p D ∧ Touch O w w' ∧ (∀ k, O' k → O k ∨ (w.heap.size ≤ k ∧ k < w'.heap.size)) ∧ ∀ (l : Nat) (x : Array Value) (c : TypeId), w.heap[l]? = some (Obj.cells x c (0, 0)) → c ≠ 47 → c ≠ 101 → w'.heap[l]? = w.heap[l]?)
set_option maxRecDepth 100000 in
theorem dwrite_ok {w : World} {O : Nat → Prop} {p : Nat} {D : dSt} {n : Nat} (h : IsDO w O p D) (hk : DOk D n) (hn : n ≤ 900) (i : Int) (hi : 0 ≤ i ∧ i < D.size) (hon : D.left ≠ 0) (g c : Nat) (bs : List UInt8) (hs : Sec w g bs) :
    Calls Tryz.prog 68 #[Ptr p, .int .i64 i, .slice (some ⟨g, 0, none⟩) 256 c] w (PWo w O p 0 (D.wrote i bs)) := by
  obtain ⟨hb, wv, hd, h1, h2, h3⟩ := h
  have := hk.waits
  have := hk.steps1
  refine (write_ok 0 p hb wv D i g 0 c bs w hd (by omega) hi hon hs.len (rangeAt_row hs.box) hk.steps0 (by omega) hk.left0 hk.left1).mono ?_
  rintro e w' ⟨wv', rfl, hd', hT, hat⟩
  refine ⟨rfl, fun k => O k ∨ (wv'.ownBlock = some k), ⟨hb, wv', hd', .inl h1, .inl h2, fun k hk => .inr hk⟩, hT.mono (fun k _ c => by rcases c with rfl | c; exact h1; exact h3 k c), ?_, ?_⟩
  · intro k hk'
    rcases hk' with c | c
    · exact .inl c
    · rcases hat k c with c' | c'
      · exact .inl (h3 k c')
      · refine .inr ⟨c', ?_⟩
        obtain ⟨_, hc⟩ := own_type hd'.wait c
        exact (Array.getElem?_eq_some_iff.1 hc).1
  · intro l x c hl n1 n2
    have ha := hd.apart hl n1 n2
    refine hT.block l (Array.getElem?_eq_some_iff.1 hl).1 (fun c => ?_)
    rcases c with c | c
    · exact ha.1 c
    · exact ha.2.2 c
set_option maxRecDepth 100000 in
theorem dwrite_off {w : World} {O : Nat → Prop} {p : Nat} {D : dSt} {n : Nat} (h : IsDO w O p D) (hk : DOk D n) (i : Int) (hi : 0 ≤ i ∧ i < D.size) (hon : D.left = 0) (ga : Option Addr) (c : Nat) :
    Calls Tryz.prog 68 #[Ptr p, .int .i64 i, .slice ga 256 c] w (PWo w O p 10 D) := by
  have hD := h
  obtain ⟨hb, wv, hd, h1, h2, h3⟩ := h
  refine (write_off p D.size i ga c w (cellOf hd.box 0) (by rw [cellOf hd.box 4, hon]; rfl) hk.size hi).mono ?_
  rintro e w' ⟨rfl, hw⟩
  rw [hw]
  exact ⟨rfl, O, hD, Touch.refl _ _, fun _ c => .inl c, fun _ _ _ _ _ _ => rfl⟩
set_option maxRecDepth 100000 in
theorem dsync_any {w : World} {O : Nat → Prop} {p : Nat} {D : dSt} {n : Nat} (h : IsDO w O p D) (hk : DOk D n) (hn : n ≤ 900) : Calls Tryz.prog 69 #[Ptr p] w (PWr w O p (if D.left = 0 then (10, D) else (0, D.synced))) := by
  have hD := h
  obtain ⟨hb, wv, hd, h1, h2, h3⟩ := h
  by_cases hon : D.left = 0
  · rw [if_pos hon]
    refine (sync_off p D.size w (cellOf hd.box 0) (by rw [cellOf hd.box 4, hon]; rfl) hk.size).mono ?_
    rintro e w' ⟨rfl, hw⟩
    rw [hw]
    exact ⟨rfl, O, hD, Touch.refl _ _, fun _ c => .inl c⟩
  · rw [if_neg hon]
    have := hk.waits
    have := hk.steps1
    refine (sync_ok 0 p hb wv D w hd (by omega) hk.size hon hk.steps0 (by omega) hk.left0 hk.left1).mono ?_
    rintro e w' ⟨rfl, hd', hT⟩
    exact ⟨rfl, O, ⟨hb, _, hd', h1, h2, fun k hk => by cases hk⟩, hT.mono (fun k _ c => by rcases c with rfl | rfl; exact h1; exact h2), fun _ c => .inl c⟩

set_option maxRecDepth 100000 in
theorem rangeBs {hs : List Part} {g : List UInt8} (h : hs.map (·.bs) = W.pieces g) : hs.length = W.secs g.length ∧ ∀ i (x : Part), hs[i]? = some x → x.bs = W.piece (W.full g) i := by
  refine ⟨by rw [← List.length_map (f := (·.bs)), h, W.pieces, List.length_map, List.length_range], fun i x hx => ?_⟩
  have h1 : (hs.map (·.bs))[i]? = some x.bs := by rw [List.getElem?_map, hx]; rfl
  rw [h, W.pieces, List.getElem?_map] at h1
  obtain ⟨j, hj, e⟩ := Option.map_eq_some_iff.1 h1
  obtain ⟨_, e2⟩ := List.getElem?_eq_some_iff.1 hj
  rw [← e, ← e2, List.getElem_range]

set_option maxRecDepth 100000 in
theorem wr_mem {w wr w1 w2 : World} {O O' O2 : Nat → Prop} {p : Nat} {D : dSt} (h1 : Touch O w wr) (h2 : ∀ j, O' j → O j ∨ (w.heap.size ≤ j ∧ j < wr.heap.size)) (h3 : Adds wr w1) (hD : IsDO w2 O2 p D) (hT : Touch O' w1 w2) (hO : ∀ k, O2 k → O' k ∨ (w1.heap.size ≤ k ∧ k < w2.heap.size)) :
    ∃ O', IsDO w2 O' p D ∧ Touch O w w2 ∧ ∀ k, O' k → O k ∨ (w.heap.size ≤ k ∧ k < w2.heap.size) := by
  have s1 := h1.size
  have s3 := h3.size
  have s2 := hT.size
  refine ⟨O2, hD, (h1.trans (h3.mono (fun _ _ c => c.elim))).then hT (fun k hk c => ?_), fun k hk => ?_⟩
  · rcases h2 k c with c | c
    · exact c
    · omega
  · rcases hO k hk with c | c
    · rcases h2 k c with c | c
      · exact .inl c
      · exact .inr ⟨c.1, by omega⟩
    · exact .inr ⟨by omega, c.2⟩
set_option maxRecDepth 100000 in
set_option maxHeartbeats 4000000 in
theorem write_any {w : World} {O Q : Nat → Prop} {l p : Nat} {gv tv : Value} {L : LS} {D : dSt} {n0 : Nat} (hb : w.heap[l]? = some (LBox p L gv tv)) (hD : IsDO w O p D) (hk : DOk D n0) (g : List UInt8) (hn : n0 + W.secs g.length ≤ 800) (hL : L.Ok) (hsz : L.fr + L.ct ≤ D.size) (hu : W.usedOf L.G + W.secs g.length ≤ L.ct) (hT : Tab w) (h0 : ¬ O 0)
    (pa : Option Addr) (m pc : Nat) (hs : List Part) (hm : hs.length = m) (hP : CQ w Q pa (hs.map PV)) (hX : ∀ x ∈ hs, PQ w Q x) (hQ : ∀ k, Q k → ¬ O k) (hbs : hs.map (·.bs) = W.pieces g) :
    Calls Tryz.prog 44 #[Ptr l, .slice pa m pc] w (PWr w O p (goW (fW L.fr L.ep (W.usedOf L.G) g) (W.secs g.length) 0 D)) := by
  obtain ⟨us, hus⟩ : ∃ us, us = W.usedOf L.G := ⟨_, rfl⟩
  obtain ⟨hm2, hpc⟩ := rangeBs hbs
  have h1 := hL.fr
  have h2 := hL.ct
  have h3 := hL.ep
  have HB := hid (show w.heap[l]? = some (.cells #[Ptr p, .int .i64 (L.fr : Int), .int .i64 (L.ct : Int), .int .i64 (L.ep : Int), .bool L.cl, gv, .int .i64 (us : Int), .int .i64 (L.R.length : Int), tv] 83 (0, 0)) by rw [hus]; exact hb)
  rw [← hus] at hu
  have hm3 : m = W.secs g.length := by omega
  rw [← hm3] at hn hu
  have HF := hid (show fW L.fr L.ep (W.usedOf L.G) g = fW L.fr L.ep us g by rw [hus])
  rw [HF.out, ← hm3]
  have HP := hid (show ∀ i, i < m → ∃ x, hs[i]? = some x ∧ x.bs = W.piece (W.full g) i ∧ PQ w Q x ∧ ∃ b o, pa = some ⟨b, o, none⟩ ∧ Q b ∧ w.cell? ⟨b, o + i, none⟩ = some (.slice x.a x.bs.length x.cap) from fun i hi => by
    have hx : hs[i]? = some (hs[i]'(by omega)) := List.getElem?_eq_getElem (by omega)
    obtain ⟨b, o, e, q, hc⟩ := hP i (PV (hs[i]'(by omega))) (by rw [List.getElem?_map, hx]; rfl)
    exact ⟨_, hx, hpc i _ hx, hX _ (List.getElem_mem _), b, o, e, q, hc⟩)
  have HD := hid (And.intro hD (And.intro hk (And.intro hQ (And.intro hT h0))))
  obtain ⟨fr, hfr⟩ : ∃ fr, fr = L.fr := ⟨_, rfl⟩
  obtain ⟨ep, hep⟩ : ∃ ep, ep = L.ep := ⟨_, rfl⟩
  rw [← hfr, ← hep] at HB
  rw [← hfr, ← hep]
  rw [← hfr] at h1 hsz
  rw [← hep] at h3
  have HZ := hid (And.intro hsz hu)
  clear hb hD hk hT hP hX hQ hbs hm2 hpc hm hm3 hL hus hfr hep h0
  go_enter Tryz.func44, Tryz.ntmps44
  go_wp2_with fail
  go_loopw [12] (fun i wr => ∃ (k : Nat) (D' : dSt) (O' : Nat → Prop), k ≤ m ∧ i = .int .i64 (k : Int) ∧ Hid (IsDO wr O' p D' ∧ DOk D' (n0 + k) ∧ D'.size = D.size ∧ goW (fW fr ep us g) m 0 D = goW (fW fr ep us g) (m - k) k D' ∧ Touch O w wr ∧ (∀ j, O' j → O j ∨ (w.heap.size ≤ j ∧ j < wr.heap.size)) ∧ wr.heap[l]? = w.heap[l]?)) (fun i _ => m - (intOf i).toNat)
  case atStart => exact ⟨0, D, O, Nat.zero_le _, rfl, HD.out.1, HD.out.2.1, rfl, rfl, Touch.refl _ _, fun _ c => .inl c, rfl⟩
  case round =>
    obtain ⟨k, D', O', hkm, rfl, HI⟩ := hrel
    have HBr := hid (show wr.heap[l]? = some (.cells #[Ptr p, .int .i64 (fr : Int), .int .i64 (L.ct : Int), .int .i64 (ep : Int), .bool L.cl, gv, .int .i64 (us : Int), .int .i64 (L.R.length : Int), tv] 83 (0, 0)) by rw [HI.out.2.2.2.2.2.2]; exact HB.out)
    by_cases hlt : k < m
    · obtain ⟨x, hx, hxb, hxq, b, o, rfl, hqb, hxc⟩ := HP.out k hlt
      have hc : wr.cell? ⟨b, o + k, none⟩ = some (.slice x.a x.bs.length x.cap) := by rw [World.cell?_of_block (w := w) (HI.out.2.2.2.2.1.block b (World.block_lt_of_cell? w _ hxc) (HD.out.2.2.1 b hqb))]; exact hxc
      have hxr : PQ wr Q x := hxq.touch HI.out.2.2.2.2.1 HD.out.2.2.1
      have hTr : Tab wr := fun j hj => by have q := HD.out.2.2.2.1 j hj; rw [World.cell?_of_block (w := w) (HI.out.2.2.2.2.1.block 0 (World.block_lt_of_cell? w _ q) HD.out.2.2.2.2)]; exact q
      have c3 : wr.cell? ⟨l, 3, none⟩ = some (.int .i64 (ep : Int)) := cellOf HBr.out 3
      have c6 : wr.cell? ⟨l, 6, none⟩ = some (.int .i64 (us : Int)) := cellOf HBr.out 6
      have HM := hid (show Calls Tryz.prog 66 #[Ptr l, .int .i64 ((us : Int) + k)] wr (Tells (.int .u64 (W.mark ep (us + k) : Int)) wr) by rw [show (us : Int) + k = ((us + k : Nat) : Int) by omega]; exact mark_any l ep (us + k) wr c3 h3 (by omega))
      have HK := hid (kindBehind_any k wr)
      have HW := hid (swrap_ok (W.mark ep (us + k)) (W.kind k) x.a x.bs x.cap wr (by unfold W.mark; omega) (W.kind_ne k) (by rw [hxb]; exact W.piece_le _ _) hxr.non hxr.at_.at hTr)
      have HS := hid (show M.sector (W.mark ep (us + k)) (W.kind k) x.bs = W.laid ep us g k by rw [hxb]; rfl)
      rw [HS.out] at HW
      clear hx hxb hxq hqb hxc hxr hTr c3
      obtain ⟨mk, hmk⟩ : ∃ mk, mk = W.mark ep (us + k) := ⟨_, rfl⟩
      obtain ⟨kd, hkd⟩ : ∃ kd, kd = W.kind k := ⟨_, rfl⟩
      rw [← hmk] at HM HW
      rw [← hkd] at HK HW
      have HSz := hid (show (0 : Int) ≤ (fr : Int) + us + k ∧ (fr : Int) + us + k < D'.size by rw [HI.out.2.2.1]; have := HZ.out; omega)
      clear hmk hkd HS
      by_cases hon : D'.left = 0
      · have HWr := hid (fun w1 ga c (h : IsDO w1 O' p D') => dwrite_off (n := n0 + k) h HI.out.2.1 ((fr : Int) + us + k) HSz.out hon ga c)
        have HE := hid (show goW (fW fr ep us g) m 0 D = (10, D') by rw [HI.out.2.2.2.1, show m - k = (m - k - 1) + 1 by omega, goW, if_pos hon])
        clear hon
        go_upto_region 5 with (first
          | (go_at_call 66; refine HM.out.mono ?_; rintro e _ ⟨rfl, hw⟩; rw [hw]; clear hw)
          | (go_at_call 67; refine HK.out.mono ?_; rintro e _ ⟨rfl, hw⟩; rw [hw]; clear hw)
          | (go_at_call 65; refine HW.out.mono ?_; rintro e w1 ⟨gs, rfl, hg1, hs1, A1⟩; have HQ1 := hid (And.intro hg1 (And.intro hs1 A1)); clear hg1 hs1 A1))
        refine H_begin (S := fun w' : World => w'.heap[l]? = some (.cells #[Ptr p, .int .i64 (fr : Int), .int .i64 (L.ct : Int), .int .i64 (ep : Int), .bool L.cl, gv, .int .i64 (us : Int), .int .i64 (L.R.length : Int), tv] 83 (0, 0))) (by kernel_rfl) ?_
        have hS : (fun w' : World => w'.heap[l]? = some (.cells #[Ptr p, .int .i64 (fr : Int), .int .i64 (L.ct : Int), .int .i64 (ep : Int), .bool L.cl, gv, .int .i64 (us : Int), .int .i64 (L.R.length : Int), tv] 83 (0, 0))) w1.drew := (HQ1.out.2.2.at' HBr.out id)
        refine H_put (i := 0) 32 (v := Ptr l) rfl rfl (by kernel_rfl) (by kernel_rfl) (by kernel_rfl) (fun _ _ _ h => h) (Or.inl ⟨by rfl, fun w' hw' => ?_⟩) hS ?_
        · go_simp
        simp only [Act.put, List.setIfInBounds_toArray, List.set_cons_zero, List.set_cons_succ]
        refine H_put (i := 1) 33 (v := Ptr l) rfl rfl (by kernel_rfl) (by kernel_rfl) (by kernel_rfl) (fun _ _ _ h => h) (Or.inl ⟨by rfl, fun w' hw' => ?_⟩) hS ?_
        · go_simp
        simp only [Act.put, List.setIfInBounds_toArray, List.set_cons_zero, List.set_cons_succ]
        refine H_put (i := 2) 34 (v := .pointer (some ⟨l, 0, none⟩)) rfl rfl (by kernel_rfl) (by kernel_rfl) (by kernel_rfl) (fun _ _ _ h => h) (Or.inl ⟨by rfl, fun w' hw' => ?_⟩) hS ?_
        · go_simp
        simp only [Act.put, List.setIfInBounds_toArray, List.set_cons_zero, List.set_cons_succ]
        refine H_put (i := 3) 35 (v := Ptr p) rfl rfl (by kernel_rfl) (by kernel_rfl) (by kernel_rfl) (fun _ _ _ h => h) (Or.inl ⟨by rfl, fun w' hw' => ?_⟩) hS ?_
        · have c : w'.cell? ⟨l, 0, none⟩ = some (Ptr p) := cellOf (hw') 0; go_simp
        simp only [Act.put, List.setIfInBounds_toArray, List.set_cons_zero, List.set_cons_succ]
        refine H_put (i := 4) 36 (v := Ptr l) rfl rfl (by kernel_rfl) (by kernel_rfl) (by kernel_rfl) (fun _ _ _ h => h) (Or.inl ⟨by rfl, fun w' hw' => ?_⟩) hS ?_
        · go_simp
        simp only [Act.put, List.setIfInBounds_toArray, List.set_cons_zero, List.set_cons_succ]
        refine H_put (i := 5) 37 (v := Ptr l) rfl rfl (by kernel_rfl) (by kernel_rfl) (by kernel_rfl) (fun _ _ _ h => h) (Or.inl ⟨by rfl, fun w' hw' => ?_⟩) hS ?_
        · go_simp
        simp only [Act.put, List.setIfInBounds_toArray, List.set_cons_zero, List.set_cons_succ]
        refine H_put (i := 6) 38 (v := .pointer (some ⟨l, 1, none⟩)) rfl rfl (by kernel_rfl) (by kernel_rfl) (by kernel_rfl) (fun _ _ _ h => h) (Or.inl ⟨by rfl, fun w' hw' => ?_⟩) hS ?_
        · go_simp
        simp only [Act.put, List.setIfInBounds_toArray, List.set_cons_zero, List.set_cons_succ]
        refine H_put (i := 7) 39 (v := .int .i64 (fr : Int)) rfl rfl (by kernel_rfl) (by kernel_rfl) (by kernel_rfl) (fun _ _ _ h => h) (Or.inl ⟨by rfl, fun w' hw' => ?_⟩) hS ?_
        · have c : w'.cell? ⟨l, 1, none⟩ = some (.int .i64 (fr : Int)) := cellOf (hw') 1; go_simp
        simp only [Act.put, List.setIfInBounds_toArray, List.set_cons_zero, List.set_cons_succ]
        refine H_put (i := 8) 40 (v := Ptr l) rfl rfl (by kernel_rfl) (by kernel_rfl) (by kernel_rfl) (fun _ _ _ h => h) (Or.inl ⟨by rfl, fun w' hw' => ?_⟩) hS ?_
        · go_simp
        simp only [Act.put, List.setIfInBounds_toArray, List.set_cons_zero, List.set_cons_succ]
        refine H_put (i := 9) 41 (v := Ptr l) rfl rfl (by kernel_rfl) (by kernel_rfl) (by kernel_rfl) (fun _ _ _ h => h) (Or.inl ⟨by rfl, fun w' hw' => ?_⟩) hS ?_
        · go_simp
        simp only [Act.put, List.setIfInBounds_toArray, List.set_cons_zero, List.set_cons_succ]
        refine H_put (i := 10) 42 (v := .pointer (some ⟨l, 6, none⟩)) rfl rfl (by kernel_rfl) (by kernel_rfl) (by kernel_rfl) (fun _ _ _ h => h) (Or.inl ⟨by rfl, fun w' hw' => ?_⟩) hS ?_
        · go_simp
        simp only [Act.put, List.setIfInBounds_toArray, List.set_cons_zero, List.set_cons_succ]
        refine H_put (i := 11) 43 (v := .int .i64 (us : Int)) rfl rfl (by kernel_rfl) (by kernel_rfl) (by kernel_rfl) (fun _ _ _ h => h) (Or.inl ⟨by rfl, fun w' hw' => ?_⟩) hS ?_
        · have c : w'.cell? ⟨l, 6, none⟩ = some (.int .i64 (us : Int)) := cellOf (hw') 6; go_simp
        simp only [Act.put, List.setIfInBounds_toArray, List.set_cons_zero, List.set_cons_succ]
        refine H_put (i := 12) 44 (v := .int .i64 ((fr : Int) + us)) rfl rfl (by kernel_rfl) (by kernel_rfl) (by kernel_rfl) (fun _ _ _ h => h) (Or.inl ⟨by rfl, fun w' hw' => ?_⟩) hS ?_
        · go_simp; rw [IntKind.wrap_i64]; omega
        simp only [Act.put, List.setIfInBounds_toArray, List.set_cons_zero, List.set_cons_succ]
        refine H_put (i := 13) 45 (v := .int .i64 (k : Int)) rfl rfl (by kernel_rfl) (by kernel_rfl) (by kernel_rfl) (fun _ _ _ h => h) (Or.inl ⟨by rfl, fun w' hw' => ?_⟩) hS ?_
        · go_simp
        simp only [Act.put, List.setIfInBounds_toArray, List.set_cons_zero, List.set_cons_succ]
        refine H_put (i := 14) 46 (v := .int .i64 ((fr : Int) + us + k)) rfl rfl (by kernel_rfl) (by kernel_rfl) (by kernel_rfl) (fun _ _ _ h => h) (Or.inl ⟨by rfl, fun w' hw' => ?_⟩) hS ?_
        · go_simp; rw [IntKind.wrap_i64]; omega
        simp only [Act.put, List.setIfInBounds_toArray, List.set_cons_zero, List.set_cons_succ]
        refine H_put (i := 15) 47 (v := .slice (some ⟨gs, 0, none⟩) 256 256) rfl rfl (by kernel_rfl) (by kernel_rfl) (by kernel_rfl) (fun _ _ _ h => h) (Or.inl ⟨by rfl, fun w' hw' => ?_⟩) hS ?_
        · go_simp
        simp only [Act.put, List.setIfInBounds_toArray, List.set_cons_zero, List.set_cons_succ]
        refine H_call (i := 16) 48 68 #[Ptr p, .int .i64 ((fr : Int) + us + k), .slice (some ⟨gs, 0, none⟩) 256 256] (by kernel_rfl) rfl rfl (by rfl) (by go_simp) (HWr.out w1.drew _ 256 (HI.out.1.adds (HQ1.out.2.2.drew))) ?_
        rintro e w2 ⟨rfl, HQ2⟩
        have HB2 := hid (show w2.heap[l]? = some (.cells #[Ptr p, .int .i64 (fr : Int), .int .i64 (L.ct : Int), .int .i64 (ep : Int), .bool L.cl, gv, .int .i64 (us : Int), .int .i64 (L.R.length : Int), tv] 83 (0, 0)) by obtain ⟨_, _, _, _, hbx⟩ := HQ2.out; rw [hbx l _ _ hS (by decide) (by decide)]; exact hS)
        have hS2 : (fun w' : World => w'.heap[l]? = some (.cells #[Ptr p, .int .i64 (fr : Int), .int .i64 (L.ct : Int), .int .i64 (ep : Int), .bool L.cl, gv, .int .i64 (us : Int), .int .i64 (L.R.length : Int), tv] 83 (0, 0))) _ := HB2.out
        refine ⟨_, _, rfl, hS2, fun w' h => h, ?_⟩
        clear hS; have hS := hS2; clear hS2
        simp only [Act.put, List.setIfInBounds_toArray, List.set_cons_zero, List.set_cons_succ]
        refine H_put (i := 17) 9 (v := .int .i64 10) rfl rfl (by kernel_rfl) (by kernel_rfl) (by kernel_rfl) (fun _ _ _ h => h) (Or.inl ⟨by rfl, fun w' hw' => ?_⟩) hS ?_
        · go_simp
        simp only [Act.put, List.setIfInBounds_toArray, List.set_cons_zero, List.set_cons_succ]
        refine wpAnyH_done (by kernel_rfl) ?_ _
        go_wp2
        go_ret
        rw [HE.out]
        obtain ⟨O2, q1, q2, q3, _⟩ := HQ2.out
        exact ⟨rfl, wr_mem HI.out.2.2.2.2.1 HI.out.2.2.2.2.2.1 HQ1.out.2.2.drew q1 q2 q3⟩
      · have HWr := hid (fun w1 g1 c (h : IsDO w1 O' p D') (hs : Sec w1 g1 (W.laid ep us g k)) => dwrite_ok h HI.out.2.1 (by omega) ((fr : Int) + us + k) HSz.out hon g1 c (W.laid ep us g k) hs)
        have HE := hid (show goW (fW fr ep us g) m 0 D = goW (fW fr ep us g) (m - (k + 1)) (k + 1) (D'.wrote ((fr : Int) + us + k) (W.laid ep us g k)) by rw [HI.out.2.2.2.1, show m - k = (m - (k + 1)) + 1 by omega, goW, if_neg hon]; simp [fW])
        clear hon
        go_upto_region 5 with (first
          | (go_at_call 66; refine HM.out.mono ?_; rintro e _ ⟨rfl, hw⟩; rw [hw]; clear hw)
          | (go_at_call 67; refine HK.out.mono ?_; rintro e _ ⟨rfl, hw⟩; rw [hw]; clear hw)
          | (go_at_call 65; refine HW.out.mono ?_; rintro e w1 ⟨gs, rfl, hg1, hs1, A1⟩; have HQ1 := hid (And.intro hg1 (And.intro hs1 A1)); clear hg1 hs1 A1))
        refine H_begin (S := fun w' : World => w'.heap[l]? = some (.cells #[Ptr p, .int .i64 (fr : Int), .int .i64 (L.ct : Int), .int .i64 (ep : Int), .bool L.cl, gv, .int .i64 (us : Int), .int .i64 (L.R.length : Int), tv] 83 (0, 0))) (by kernel_rfl) ?_
        have hS : (fun w' : World => w'.heap[l]? = some (.cells #[Ptr p, .int .i64 (fr : Int), .int .i64 (L.ct : Int), .int .i64 (ep : Int), .bool L.cl, gv, .int .i64 (us : Int), .int .i64 (L.R.length : Int), tv] 83 (0, 0))) w1.drew := (HQ1.out.2.2.at' HBr.out id)
        refine H_put (i := 0) 32 (v := Ptr l) rfl rfl (by kernel_rfl) (by kernel_rfl) (by kernel_rfl) (fun _ _ _ h => h) (Or.inl ⟨by rfl, fun w' hw' => ?_⟩) hS ?_
        · go_simp
        simp only [Act.put, List.setIfInBounds_toArray, List.set_cons_zero, List.set_cons_succ]
        refine H_put (i := 1) 33 (v := Ptr l) rfl rfl (by kernel_rfl) (by kernel_rfl) (by kernel_rfl) (fun _ _ _ h => h) (Or.inl ⟨by rfl, fun w' hw' => ?_⟩) hS ?_
        · go_simp
        simp only [Act.put, List.setIfInBounds_toArray, List.set_cons_zero, List.set_cons_succ]
        refine H_put (i := 2) 34 (v := .pointer (some ⟨l, 0, none⟩)) rfl rfl (by kernel_rfl) (by kernel_rfl) (by kernel_rfl) (fun _ _ _ h => h) (Or.inl ⟨by rfl, fun w' hw' => ?_⟩) hS ?_
        · go_simp
        simp only [Act.put, List.setIfInBounds_toArray, List.set_cons_zero, List.set_cons_succ]
        refine H_put (i := 3) 35 (v := Ptr p) rfl rfl (by kernel_rfl) (by kernel_rfl) (by kernel_rfl) (fun _ _ _ h => h) (Or.inl ⟨by rfl, fun w' hw' => ?_⟩) hS ?_
        · have c : w'.cell? ⟨l, 0, none⟩ = some (Ptr p) := cellOf (hw') 0; go_simp
        simp only [Act.put, List.setIfInBounds_toArray, List.set_cons_zero, List.set_cons_succ]
        refine H_put (i := 4) 36 (v := Ptr l) rfl rfl (by kernel_rfl) (by kernel_rfl) (by kernel_rfl) (fun _ _ _ h => h) (Or.inl ⟨by rfl, fun w' hw' => ?_⟩) hS ?_
        · go_simp
        simp only [Act.put, List.setIfInBounds_toArray, List.set_cons_zero, List.set_cons_succ]
        refine H_put (i := 5) 37 (v := Ptr l) rfl rfl (by kernel_rfl) (by kernel_rfl) (by kernel_rfl) (fun _ _ _ h => h) (Or.inl ⟨by rfl, fun w' hw' => ?_⟩) hS ?_
        · go_simp
        simp only [Act.put, List.setIfInBounds_toArray, List.set_cons_zero, List.set_cons_succ]
        refine H_put (i := 6) 38 (v := .pointer (some ⟨l, 1, none⟩)) rfl rfl (by kernel_rfl) (by kernel_rfl) (by kernel_rfl) (fun _ _ _ h => h) (Or.inl ⟨by rfl, fun w' hw' => ?_⟩) hS ?_
        · go_simp
        simp only [Act.put, List.setIfInBounds_toArray, List.set_cons_zero, List.set_cons_succ]
        refine H_put (i := 7) 39 (v := .int .i64 (fr : Int)) rfl rfl (by kernel_rfl) (by kernel_rfl) (by kernel_rfl) (fun _ _ _ h => h) (Or.inl ⟨by rfl, fun w' hw' => ?_⟩) hS ?_
        · have c : w'.cell? ⟨l, 1, none⟩ = some (.int .i64 (fr : Int)) := cellOf (hw') 1; go_simp
        simp only [Act.put, List.setIfInBounds_toArray, List.set_cons_zero, List.set_cons_succ]
        refine H_put (i := 8) 40 (v := Ptr l) rfl rfl (by kernel_rfl) (by kernel_rfl) (by kernel_rfl) (fun _ _ _ h => h) (Or.inl ⟨by rfl, fun w' hw' => ?_⟩) hS ?_
        · go_simp
        simp only [Act.put, List.setIfInBounds_toArray, List.set_cons_zero, List.set_cons_succ]
        refine H_put (i := 9) 41 (v := Ptr l) rfl rfl (by kernel_rfl) (by kernel_rfl) (by kernel_rfl) (fun _ _ _ h => h) (Or.inl ⟨by rfl, fun w' hw' => ?_⟩) hS ?_
        · go_simp
        simp only [Act.put, List.setIfInBounds_toArray, List.set_cons_zero, List.set_cons_succ]
        refine H_put (i := 10) 42 (v := .pointer (some ⟨l, 6, none⟩)) rfl rfl (by kernel_rfl) (by kernel_rfl) (by kernel_rfl) (fun _ _ _ h => h) (Or.inl ⟨by rfl, fun w' hw' => ?_⟩) hS ?_
        · go_simp
        simp only [Act.put, List.setIfInBounds_toArray, List.set_cons_zero, List.set_cons_succ]
        refine H_put (i := 11) 43 (v := .int .i64 (us : Int)) rfl rfl (by kernel_rfl) (by kernel_rfl) (by kernel_rfl) (fun _ _ _ h => h) (Or.inl ⟨by rfl, fun w' hw' => ?_⟩) hS ?_
        · have c : w'.cell? ⟨l, 6, none⟩ = some (.int .i64 (us : Int)) := cellOf (hw') 6; go_simp
        simp only [Act.put, List.setIfInBounds_toArray, List.set_cons_zero, List.set_cons_succ]
        refine H_put (i := 12) 44 (v := .int .i64 ((fr : Int) + us)) rfl rfl (by kernel_rfl) (by kernel_rfl) (by kernel_rfl) (fun _ _ _ h => h) (Or.inl ⟨by rfl, fun w' hw' => ?_⟩) hS ?_
        · go_simp; rw [IntKind.wrap_i64]; omega
        simp only [Act.put, List.setIfInBounds_toArray, List.set_cons_zero, List.set_cons_succ]
        refine H_put (i := 13) 45 (v := .int .i64 (k : Int)) rfl rfl (by kernel_rfl) (by kernel_rfl) (by kernel_rfl) (fun _ _ _ h => h) (Or.inl ⟨by rfl, fun w' hw' => ?_⟩) hS ?_
        · go_simp
        simp only [Act.put, List.setIfInBounds_toArray, List.set_cons_zero, List.set_cons_succ]
        refine H_put (i := 14) 46 (v := .int .i64 ((fr : Int) + us + k)) rfl rfl (by kernel_rfl) (by kernel_rfl) (by kernel_rfl) (fun _ _ _ h => h) (Or.inl ⟨by rfl, fun w' hw' => ?_⟩) hS ?_
        · go_simp; rw [IntKind.wrap_i64]; omega
        simp only [Act.put, List.setIfInBounds_toArray, List.set_cons_zero, List.set_cons_succ]
        refine H_put (i := 15) 47 (v := .slice (some ⟨gs, 0, none⟩) 256 256) rfl rfl (by kernel_rfl) (by kernel_rfl) (by kernel_rfl) (fun _ _ _ h => h) (Or.inl ⟨by rfl, fun w' hw' => ?_⟩) hS ?_
        · go_simp
        simp only [Act.put, List.setIfInBounds_toArray, List.set_cons_zero, List.set_cons_succ]
        refine H_call (i := 16) 48 68 #[Ptr p, .int .i64 ((fr : Int) + us + k), .slice (some ⟨gs, 0, none⟩) 256 256] (by kernel_rfl) rfl rfl (by rfl) (by go_simp) (HWr.out w1.drew _ 256 (HI.out.1.adds (HQ1.out.2.2.drew)) (HQ1.out.2.1.adds (Touch.refl _ w1).drew)) ?_
        rintro e w2 ⟨rfl, HQ2⟩
        have HB2 := hid (show w2.heap[l]? = some (.cells #[Ptr p, .int .i64 (fr : Int), .int .i64 (L.ct : Int), .int .i64 (ep : Int), .bool L.cl, gv, .int .i64 (us : Int), .int .i64 (L.R.length : Int), tv] 83 (0, 0)) by obtain ⟨_, _, _, _, hbx⟩ := HQ2.out; rw [hbx l _ _ hS (by decide) (by decide)]; exact hS)
        have hS2 : (fun w' : World => w'.heap[l]? = some (.cells #[Ptr p, .int .i64 (fr : Int), .int .i64 (L.ct : Int), .int .i64 (ep : Int), .bool L.cl, gv, .int .i64 (us : Int), .int .i64 (L.R.length : Int), tv] 83 (0, 0))) _ := HB2.out
        refine ⟨_, _, rfl, hS2, fun w' h => h, ?_⟩
        clear hS; have hS := hS2; clear hS2
        simp only [Act.put, List.setIfInBounds_toArray, List.set_cons_zero, List.set_cons_succ]
        refine H_put (i := 17) 9 (v := .int .i64 0) rfl rfl (by kernel_rfl) (by kernel_rfl) (by kernel_rfl) (fun _ _ _ h => h) (Or.inl ⟨by rfl, fun w' hw' => ?_⟩) hS ?_
        · go_simp
        simp only [Act.put, List.setIfInBounds_toArray, List.set_cons_zero, List.set_cons_succ]
        refine wpAnyH_done (by kernel_rfl) ?_ _
        go_wp2
        go_roundw
        case rel =>
          obtain ⟨O1, q1, q2, q3, _⟩ := HQ2.out
          obtain ⟨O2, hO2, hT2, hS2⟩ := wr_mem HI.out.2.2.2.2.1 HI.out.2.2.2.2.2.1 HQ1.out.2.2.drew q1 q2 q3
          exact ⟨k + 1, _, O2, by omega, by go_num, hO2, HI.out.2.1.wrote _ _, HI.out.2.2.1, HE.out, hT2, hS2, by rw [HB2.out, HB.out]⟩
        case measure => simp [intOf]; omega
    · obtain rfl : k = m := by omega
      have c0 : wr.cell? ⟨l, 0, none⟩ = some (Ptr p) := cellOf HBr.out 0
      have HSy := hid (dsync_any HI.out.1 HI.out.2.1 (by omega))
      have HE := hid (show goW (fW fr ep us g) k 0 D = (if D'.left = 0 then (10, D') else (0, D'.synced)) by rw [HI.out.2.2.2.1, Nat.sub_self, goW])
      obtain ⟨rz, rD, hr⟩ : ∃ (rz : Int) (rD : dSt), (if D'.left = 0 then ((10 : Int), D') else (0, D'.synced)) = (rz, rD) := ⟨_, _, rfl⟩
      rw [hr] at HSy HE
      clear hr
      go_wp2_with (first | (go_at_call 69; refine HSy.out.mono ?_; rintro e w3 ⟨rfl, HQ3⟩))
      go_ret
      rw [HE.out]
      obtain ⟨O1, q1, q2, q3⟩ := HQ3
      exact ⟨rfl, wr_mem HI.out.2.2.2.2.1 HI.out.2.2.2.2.2.1 (Touch.refl _ wr) q1 q2 q3⟩
end Go.Proofs.YtllkplanjfnnmaaGreatDoor

/- Append. -/
namespace Go.Proofs.YtllkplanjfnnmaaGreatDoor
open Go.RowKit

/-! ### Append -/
set_option maxRecDepth 100000 in
theorem lappend_nil (a : Option Addr) (n cap : Nat) (w : World) : Calls Tryz.prog 13 #[.pointer none, .slice a n cap] w (Tells (.int .i64 1) w) := by
  have H := hid (lmade_nil w)
  go_enter Tryz.func13, Tryz.ntmps13
  go_wp2_with (first | (go_at_call 38; refine H.out.mono ?_; rintro e _ ⟨rfl, hw⟩; rw [hw]; clear hw))
  go_ret
  exact ⟨rfl, rfl⟩
set_option maxRecDepth 100000 in
theorem lappend_zero (l : Nat) (a : Option Addr) (n cap : Nat) (w : World) (c0 : w.cell? ⟨l, 0, none⟩ = some (.pointer none)) : Calls Tryz.prog 13 #[Ptr l, .slice a n cap] w (Tells (.int .i64 1) w) := by
  have H := hid (lmade_zero l w c0)
  go_enter Tryz.func13, Tryz.ntmps13
  go_wp2_with (first | (go_at_call 38; refine H.out.mono ?_; rintro e _ ⟨rfl, hw⟩; rw [hw]; clear hw))
  go_ret
  exact ⟨rfl, rfl⟩
set_option maxRecDepth 100000 in
theorem lappend_closed (l p : Nat) (a : Option Addr) (n cap : Nat) (w : World) (c0 : w.cell? ⟨l, 0, none⟩ = some (Ptr p)) (c4 : w.cell? ⟨l, 4, none⟩ = some (.bool true)) : Calls Tryz.prog 13 #[Ptr l, .slice a n cap] w (Tells (.int .i64 42) w) := by
  have H := hid (lmade_yes l p w c0)
  go_enter Tryz.func13, Tryz.ntmps13
  go_wp2_with (first | (go_at_call 38; refine H.out.mono ?_; rintro e _ ⟨rfl, hw⟩; rw [hw]; clear hw))
  go_ret
  exact ⟨rfl, rfl⟩
set_option maxRecDepth 100000 in
theorem lappend_big (l p : Nat) (a : Option Addr) (n cap : Nat) (w : World) (c0 : w.cell? ⟨l, 0, none⟩ = some (Ptr p)) (c4 : w.cell? ⟨l, 4, none⟩ = some (.bool false)) (h : 4096 < n) : Calls Tryz.prog 13 #[Ptr l, .slice a n cap] w (Tells (.int .i64 3) w) := by
  have H := hid (lmade_yes l p w c0)
  have h' : (4096 : Int) < (n : Int) := by omega
  go_enter Tryz.func13, Tryz.ntmps13
  go_wp2_with (first | (go_at_call 38; refine H.out.mono ?_; rintro e _ ⟨rfl, hw⟩; rw [hw]; clear hw))
  go_ret
  exact ⟨rfl, rfl⟩
/-- What Append leaves. -/
def PApp (w : World) (O : Nat → Prop) (l p : Nat) (L : LS) (z : Int) (e : Ending) (w' : World) : Prop := e = .returned (.int .i64 z) ∧ ∃ O', IsLog w' O' l p L ∧ Touch O w w' ∧ ∀ k, O' k → O k ∨ (w.heap.size ≤ k ∧ k < w'.heap.size)
set_option maxRecDepth 100000 in
theorem S_append (x y : List UInt8) : S (x ++ y) = S x ++ S y := by simp [S]
set_option maxRecDepth 100000 in
theorem app_mem {w w4 w5 : World} {O : Nat → Prop} {l p : Nat} {gv v5 : Value} {hs : List Part} {L : LS} {ta : Option Addr} {tc m k us ct tl : Nat} {bs : List UInt8} (h : IsLogV w O l p gv (.slice ta (W.texts L.R).length tc) hs L) (hA : Adds w w4)
    (hG : Grew w4 w5 5 (.slice ta m tc) v5 (m + tl) (S (W.texts L.R) ++ S (W.text bs)))
    (hb : w5.heap[l]? = some (.cells #[Ptr p, .int .i64 (L.fr : Int), .int .i64 (ct : Int), .int .i64 (L.ep : Int), .bool false, gv, .int .i64 (us : Int), .int .i64 (k : Int), .slice ta m tc] 83 (0, 0)))
    (hm : m = (W.texts L.R).length) (hk : k = L.R.length) (hus : us = W.usedOf L.G) (hct : ct = L.ct) (htl : tl = (W.text bs).length) (hcl : L.cl = false) :
    PApp w O l p { L with R := L.R ++ [bs] } 0 (.returned (.int .i64 0)) ((w5.setCell ⟨l, 8, none⟩ v5).setCell ⟨l, 7, none⟩ (.int .i64 ((k : Int) + 1))) := by
  subst hm hk hus hct htl
  have e6 : (w5.setCell ⟨l, 8, none⟩ v5).setCell ⟨l, 7, none⟩ (.int .i64 ((L.R.length : Int) + 1)) = w5.setRow l #[Ptr p, .int .i64 (L.fr : Int), .int .i64 (L.ct : Int), .int .i64 (L.ep : Int), .bool false, gv, .int .i64 (W.usedOf L.G : Int), .int .i64 ((L.R.length : Int) + 1), v5] := by
    rw [setCell_eq_setRow w5 l 8 _ 83 _ _ hb, setCell_eq_setRow _ l 7 _ 83 _ _ (setRow_heap w5 l _ _ 83 _ hb), setRow_setRow]; rfl
  rw [e6]
  have hn := h.ne
  have hT : Touch (fun k => Value.ownBlock (.slice ta (W.texts L.R).length tc) = some k) w w5 := (hA.mono (fun _ _ c => c.elim)).trans (hG.touch.mono (fun _ _ c => c)) |> fun x => x
  have hT6 : Touch (fun k => k = l) w5 (w5.setRow l #[Ptr p, .int .i64 (L.fr : Int), .int .i64 (L.ct : Int), .int .i64 (L.ep : Int), .bool false, gv, .int .i64 (W.usedOf L.G : Int), .int .i64 ((L.R.length : Int) + 1), v5]) := Touch.setRow (T := fun k => k = l) (Touch.refl _ _) (fun _ => rfl) _
  have hat : ∀ k, v5.ownBlock = some k → Value.ownBlock (.slice ta (W.texts L.R).length tc) = some k ∨ k = w4.heap.size := fun k hk => by
    rcases hG.2.2 with c | c
    · exact .inl (by rw [← c]; exact hk)
    · rw [c] at hk; exact .inr (by cases hk; rfl)
  have hw := hA.size
  refine ⟨rfl, fun k => O k ∨ v5.ownBlock = some k, ⟨gv, v5, hs, ⟨?_, ?_, ?_, h.bytes, ?_, .inl h.ol, fun k hk => .inl (h.og k hk), fun k hk => .inr hk⟩⟩, ?_, ?_⟩
  · rw [setRow_heap w5 l _ _ 83 _ hb]
    simp only [LBox, hcl, List.length_append, List.length_cons, List.length_nil]
    congr 3
  · exact row_touch (row_touch h.rows hT (fun k hk => hn.2.2 k hk)) hT6 (fun k hk e => hn.1 (by rw [hk]; exact congrArg some e))
  · intro x hx
    have q1 : PQ w (fun k => DQ O l gv (.slice ta (W.texts L.R).length tc) k ∧ v5.ownBlock ≠ some k) x := (h.data x hx).mono (fun k hk q => ⟨q, fun c => by
      rcases hat k c with c | c
      · exact q.2.2.2 c
      · omega⟩)
    exact ((q1.touch hT (fun k q => q.1.2.2.2)).touch hT6 (fun k q => q.1.2.1)).mono (fun k _ q => ⟨.inl q.1.1, q.1.2.1, q.1.2.2.1, q.2⟩)
  · refine row_touch (T := fun k => k = l) ?_ hT6 (fun k hk e => ?_)
    · have ho := hG.1
      rw [← S_append] at ho
      have e1 : W.texts (L.R ++ [bs]) = W.texts L.R ++ W.text bs := by rw [W.texts_app, W.texts_one]
      simp only [e1, List.length_append]
      exact ho
    · obtain ⟨c, hc⟩ := row_type hG.1 hk
      exact type_ne hc hb (by decide) e
  · exact (hT.mono (fun k _ c => h.ot k c)).then hT6 (fun k _ e => by subst e; exact h.ol)
  · intro k hk
    rcases hk with hk | hk
    · exact .inl hk
    · rcases hat k hk with c | c
      · exact .inl (h.ot k c)
      · refine .inr ⟨by omega, ?_⟩
        have := (row_low hG.1 hk).2
        have := hT6.size
        omega
set_option maxRecDepth 100000 in
set_option maxHeartbeats 2000000 in
theorem lappend_full {w : World} {O : Nat → Prop} {l p : Nat} {gv tv : Value} {hs : List Part} {L : LS} (h : IsLogV w O l p gv tv hs L) (hk : L.Ok) (hcl : L.cl = false) (a : Option Addr) (bs : List UInt8) (n cap : Nat) (hn : bs.length = n) (hA : At w a bs) (hb : n ≤ 4096)
    (hr : ¬ W.secs (W.gbytes (L.R ++ [bs])).length ≤ L.ct - W.usedOf L.G) :
    Calls Tryz.prog 13 #[Ptr l, .slice a n cap] w (Adding (.int .i64 31) w) := by
  obtain ⟨ta, tc, htv, htc, hta, htq⟩ := own_cq h.texts
  subst htv
  have hl := hk.len
  obtain ⟨m, hm⟩ : ∃ m, m = (W.texts L.R).length := ⟨_, rfl⟩
  obtain ⟨k, hkr⟩ : ∃ k, k = L.R.length := ⟨_, rfl⟩
  obtain ⟨us, hus⟩ : ∃ us, us = W.usedOf L.G := ⟨_, rfl⟩
  obtain ⟨ct, hct⟩ : ∃ ct, ct = L.ct := ⟨_, rfl⟩
  have husb : us ≤ ct ∧ ct ≤ 10000 := by rw [hus, hct]; exact ⟨hk.us, hk.ct⟩
  have HB := hid (show w.heap[l]? = some (.cells #[Ptr p, .int .i64 (L.fr : Int), .int .i64 (ct : Int), .int .i64 (L.ep : Int), .bool false, gv, .int .i64 (us : Int), .int .i64 (k : Int), .slice ta m tc] 83 (0, 0)) by rw [hct, hus, hkr, hm, ← hcl]; exact h.box)
  have c0 : w.cell? ⟨l, 0, none⟩ = some (Ptr p) := cellOf HB.out 0
  have c4 : w.cell? ⟨l, 4, none⟩ = some (.bool false) := cellOf HB.out 4
  have H := hid (lmade_yes l p w c0)
  have h' : ¬ (4096 : Int) < (n : Int) := by omega
  have hcv : (convert 56 9 (.slice a n cap)).run Tryz.prog w = .ok (.string ⟨bs.toArray⟩) w := by rw [← hn]; exact conv_at w a bs cap hA
  have HP := hid (putText_any none [] 0 bs w (by decide) (by omega) (fun _ => rfl) (At.nil _ _))
  obtain ⟨tl, htl⟩ : ∃ tl, tl = (W.text bs).length := ⟨_, rfl⟩
  have htl2 : tl ≤ 5000 := by rw [htl, W.text, List.length_append]; have := M.len_enc10 (n := bs.length) (by omega); omega
  obtain ⟨nl, hnl⟩ : ∃ nl, nl = (M.enc (k + 1)).length := ⟨_, rfl⟩
  have hnl2 : nl ≤ 10 := by rw [hnl]; exact M.len_enc10 (by omega)
  have hm2 : m ≤ 2330000 := by rw [hm]; exact hl.1
  have hk2 : k ≤ 2330000 := by rw [hkr]; exact hl.2
  have hg : (W.gbytes (L.R ++ [bs])).length = nl + m + tl := by rw [W.gbytes, show (L.R ++ [bs]).length = k + 1 by simp [hkr], List.length_append, W.texts_app, W.texts_one, List.length_append, ← hnl, ← hm, ← htl]; omega
  rw [hg] at hr
  have HN := hid (fun w' => show Calls Tryz.prog 41 #[.int .i64 ((k : Int) + 1)] w' (POwn w' (M.enc (k + 1))) by rw [show (k : Int) + 1 = ((k + 1 : Nat) : Int) by omega]; exact number_any (k + 1) w' (by omega))
  have HS := hid (fun w' => show Calls Tryz.prog 40 #[.int .i64 ((nl : Int) + m + tl)] w' (Tells (.int .i64 (W.secs (nl + m + tl) : Int)) w') by rw [show (nl : Int) + m + tl = ((nl + m + tl : Nat) : Int) by omega]; exact sectorsOf_any (nl + m + tl) w' (by omega))
  have HR := hid (fun w' (hb' : w'.heap[l]? = some (.cells #[Ptr p, .int .i64 (L.fr : Int), .int .i64 (ct : Int), .int .i64 (L.ep : Int), .bool false, gv, .int .i64 (us : Int), .int .i64 (k : Int), .slice ta m tc] 83 (0, 0))) => lroom_any l (ct : Int) (us : Int) w' (cellOf hb' 2) (cellOf hb' 6) (by omega) (by omega) (by omega))
  obtain ⟨sc, hsc⟩ : ∃ sc, sc = W.secs (nl + m + tl) := ⟨_, rfl⟩
  rw [← hsc] at HS hr
  have hr' : ((ct : Int) - us < sc) := by rw [← hus, ← hct] at hr; omega
  have HH := hid h
  have HK := hid (And.intro hg (And.intro hm (And.intro hkr (And.intro hus (And.intro hct (And.intro htl (And.intro hnl (And.intro hta (And.intro htq hcl)))))))))
  clear hg hm hkr hus hct htl hnl hsc hr hl htc hta htq hk h hA hn hcl
  go_enter Tryz.func13, Tryz.ntmps13
  go_upto_region 8 with (first
    | (go_at_call 38; refine H.out.mono ?_; rintro e _ ⟨rfl, hw⟩; rw [hw]; clear hw)
    | (go_at_call 39; refine HP.out.mono ?_; rintro e w1 ⟨v1, rfl, o1, A1⟩; obtain ⟨ea, ec, hv1, q1, q2, q3⟩ := own_cq o1; rw [List.nil_append] at hv1 q3 o1; have hv2 : v1 = .slice ea tl ec := by rw [hv1, HK.out.2.2.2.2.2.1]; rfl
       subst hv2; obtain ⟨eb, eo, hea⟩ := q3.at.ad (W.text_pos bs); subst hea; have HQ1 := hid (And.intro o1 (And.intro A1 (And.intro q2 q3))); clear o1 A1 q1 q2 q3 hv1))
  refine H_begin (S := fun w' : World => w'.heap[l]? = some (.cells #[Ptr p, .int .i64 (L.fr : Int), .int .i64 (ct : Int), .int .i64 (L.ep : Int), .bool false, gv, .int .i64 (us : Int), .int .i64 (k : Int), .slice ta m tc] 83 (0, 0))) (by kernel_rfl) ?_
  have hS : (fun w' : World => w'.heap[l]? = some (.cells #[Ptr p, .int .i64 (L.fr : Int), .int .i64 (ct : Int), .int .i64 (L.ep : Int), .bool false, gv, .int .i64 (us : Int), .int .i64 (k : Int), .slice ta m tc] 83 (0, 0))) w1.drew := (HQ1.out.2.1.at' HB.out id)
  refine H_put (i := 0) 22 (v := Ptr l) rfl rfl (by kernel_rfl) (by kernel_rfl) (by kernel_rfl) (fun _ _ _ h => h) (Or.inl ⟨by rfl, fun w' hw' => ?_⟩) hS ?_
  · go_simp
  simp only [Act.put, List.setIfInBounds_toArray, List.set_cons_zero, List.set_cons_succ]
  refine H_put (i := 1) 23 (v := Ptr l) rfl rfl (by kernel_rfl) (by kernel_rfl) (by kernel_rfl) (fun _ _ _ h => h) (Or.inl ⟨by rfl, fun w' hw' => ?_⟩) hS ?_
  · go_simp
  simp only [Act.put, List.setIfInBounds_toArray, List.set_cons_zero, List.set_cons_succ]
  refine H_put (i := 2) 24 (v := .pointer (some ⟨l, 7, none⟩)) rfl rfl (by kernel_rfl) (by kernel_rfl) (by kernel_rfl) (fun _ _ _ h => h) (Or.inl ⟨by rfl, fun w' hw' => ?_⟩) hS ?_
  · go_simp
  simp only [Act.put, List.setIfInBounds_toArray, List.set_cons_zero, List.set_cons_succ]
  refine H_put (i := 3) 25 (v := .int .i64 (k : Int)) rfl rfl (by kernel_rfl) (by kernel_rfl) (by kernel_rfl) (fun _ _ _ h => h) (Or.inl ⟨by rfl, fun w' hw' => ?_⟩) hS ?_
  · have c : w'.cell? ⟨l, 7, none⟩ = some (.int .i64 (k : Int)) := cellOf (hw') 7; go_simp
  simp only [Act.put, List.setIfInBounds_toArray, List.set_cons_zero, List.set_cons_succ]
  refine H_put (i := 4) 26 (v := .int .i64 ((k : Int) + 1)) rfl rfl (by kernel_rfl) (by kernel_rfl) (by kernel_rfl) (fun _ _ _ h => h) (Or.inl ⟨by rfl, fun w' hw' => ?_⟩) hS ?_
  · go_simp; rw [IntKind.wrap_i64]; omega
  simp only [Act.put, List.setIfInBounds_toArray, List.set_cons_zero, List.set_cons_succ]
  refine H_put (i := 7) 29 (v := Ptr l) rfl rfl (by kernel_rfl) (by kernel_rfl) (by kernel_rfl) (fun _ _ _ h => h) (Or.inl ⟨by rfl, fun w' hw' => ?_⟩) hS ?_
  · go_simp
  simp only [Act.put, List.setIfInBounds_toArray, List.set_cons_zero, List.set_cons_succ]
  refine H_put (i := 8) 30 (v := Ptr l) rfl rfl (by kernel_rfl) (by kernel_rfl) (by kernel_rfl) (fun _ _ _ h => h) (Or.inl ⟨by rfl, fun w' hw' => ?_⟩) hS ?_
  · go_simp
  simp only [Act.put, List.setIfInBounds_toArray, List.set_cons_zero, List.set_cons_succ]
  refine H_put (i := 9) 31 (v := .pointer (some ⟨l, 8, none⟩)) rfl rfl (by kernel_rfl) (by kernel_rfl) (by kernel_rfl) (fun _ _ _ h => h) (Or.inl ⟨by rfl, fun w' hw' => ?_⟩) hS ?_
  · go_simp
  simp only [Act.put, List.setIfInBounds_toArray, List.set_cons_zero, List.set_cons_succ]
  refine H_put (i := 10) 32 (v := .slice ta m tc) rfl rfl (by kernel_rfl) (by kernel_rfl) (by kernel_rfl) (fun _ _ _ h => h) (Or.inl ⟨by rfl, fun w' hw' => ?_⟩) hS ?_
  · have c : w'.cell? ⟨l, 8, none⟩ = some (.slice ta m tc) := cellOf (hw') 8; go_simp
  simp only [Act.put, List.setIfInBounds_toArray, List.set_cons_zero, List.set_cons_succ]
  refine H_put (i := 11) 33 (v := .int .i64 (m : Int)) rfl rfl (by kernel_rfl) (by kernel_rfl) (by kernel_rfl) (fun _ _ _ h => h) (Or.inl ⟨by rfl, fun w' hw' => ?_⟩) hS ?_
  · go_simp
  simp only [Act.put, List.setIfInBounds_toArray, List.set_cons_zero, List.set_cons_succ]
  refine H_put (i := 13) 35 (v := .slice (some ⟨eb, eo, none⟩) tl ec) rfl rfl (by kernel_rfl) (by kernel_rfl) (by kernel_rfl) (fun _ _ _ h => h) (Or.inl ⟨by rfl, fun w' hw' => ?_⟩) hS ?_
  · go_simp
  simp only [Act.put, List.setIfInBounds_toArray, List.set_cons_zero, List.set_cons_succ]
  refine H_put (i := 14) 36 (v := .int .i64 (tl : Int)) rfl rfl (by kernel_rfl) (by kernel_rfl) (by kernel_rfl) (fun _ _ _ h => h) (Or.inl ⟨by rfl, fun w' hw' => ?_⟩) hS ?_
  · go_simp
  simp only [Act.put, List.setIfInBounds_toArray, List.set_cons_zero, List.set_cons_succ]
  refine H_put (i := 17) 39 (v := Ptr l) rfl rfl (by kernel_rfl) (by kernel_rfl) (by kernel_rfl) (fun _ _ _ h => h) (Or.inl ⟨by rfl, fun w' hw' => ?_⟩) hS ?_
  · go_simp
  simp only [Act.put, List.setIfInBounds_toArray, List.set_cons_zero, List.set_cons_succ]
  refine H_call (i := 5) 27 41 #[.int .i64 ((k : Int) + 1)] (by kernel_rfl) rfl rfl (by rfl) (by go_simp) (HN.out w1.drew) ?_
  rintro e w2 ⟨v2, rfl, o2, A2⟩
  obtain ⟨na, nc, hv2, _, _, _⟩ := own_cq o2
  rw [← HK.out.2.2.2.2.2.2.1] at hv2
  subst hv2
  have HA2 := hid A2
  have HB2 := hid (A2.at' hS id)
  clear A2 o2
  have hS2 : (fun w' : World => w'.heap[l]? = some (.cells #[Ptr p, .int .i64 (L.fr : Int), .int .i64 (ct : Int), .int .i64 (L.ep : Int), .bool false, gv, .int .i64 (us : Int), .int .i64 (k : Int), .slice ta m tc] 83 (0, 0))) _ := HB2.out
  refine ⟨_, _, rfl, hS2, fun w' h => h, ?_⟩
  clear hS; have hS := hS2; clear hS2
  simp only [Act.put, List.setIfInBounds_toArray, List.set_cons_zero, List.set_cons_succ]
  refine H_put (i := 6) 28 (v := .int .i64 (nl : Int)) rfl rfl (by kernel_rfl) (by kernel_rfl) (by kernel_rfl) (fun _ _ _ h => h) (Or.inl ⟨by rfl, fun w' hw' => ?_⟩) hS ?_
  · go_simp
  simp only [Act.put, List.setIfInBounds_toArray, List.set_cons_zero, List.set_cons_succ]
  refine H_put (i := 12) 34 (v := .int .i64 ((nl : Int) + m)) rfl rfl (by kernel_rfl) (by kernel_rfl) (by kernel_rfl) (fun _ _ _ h => h) (Or.inl ⟨by rfl, fun w' hw' => ?_⟩) hS ?_
  · go_simp; rw [IntKind.wrap_i64]; omega
  simp only [Act.put, List.setIfInBounds_toArray, List.set_cons_zero, List.set_cons_succ]
  refine H_put (i := 15) 37 (v := .int .i64 ((nl : Int) + m + tl)) rfl rfl (by kernel_rfl) (by kernel_rfl) (by kernel_rfl) (fun _ _ _ h => h) (Or.inl ⟨by rfl, fun w' hw' => ?_⟩) hS ?_
  · go_simp; rw [IntKind.wrap_i64]; omega
  simp only [Act.put, List.setIfInBounds_toArray, List.set_cons_zero, List.set_cons_succ]
  refine H_call (i := 16) 38 40 #[.int .i64 ((nl : Int) + m + tl)] (by kernel_rfl) rfl rfl (by rfl) (by go_simp) (HS.out w2) ?_
  rintro e w3 ⟨rfl, hw3⟩
  rw [hw3]
  have hS2 : (fun w' : World => w'.heap[l]? = some (.cells #[Ptr p, .int .i64 (L.fr : Int), .int .i64 (ct : Int), .int .i64 (L.ep : Int), .bool false, gv, .int .i64 (us : Int), .int .i64 (k : Int), .slice ta m tc] 83 (0, 0))) _ := hS
  refine ⟨_, _, rfl, hS2, fun w' h => h, ?_⟩
  clear hS; have hS := hS2; clear hS2
  simp only [Act.put, List.setIfInBounds_toArray, List.set_cons_zero, List.set_cons_succ]
  refine H_call (i := 18) 40 19 #[Ptr l] (by kernel_rfl) rfl rfl (by rfl) (by go_simp) (HR.out w2 HB2.out) ?_
  rintro e w4 ⟨rfl, A4⟩
  have HA4 := hid A4
  have HB4 := hid (A4.at' HB2.out id)
  clear A4
  have hS2 : (fun w' : World => w'.heap[l]? = some (.cells #[Ptr p, .int .i64 (L.fr : Int), .int .i64 (ct : Int), .int .i64 (L.ep : Int), .bool false, gv, .int .i64 (us : Int), .int .i64 (k : Int), .slice ta m tc] 83 (0, 0))) _ := HB4.out
  refine ⟨_, _, rfl, hS2, fun w' h => h, ?_⟩
  clear hS; have hS := hS2; clear hS2
  simp only [Act.put, List.setIfInBounds_toArray, List.set_cons_zero, List.set_cons_succ]
  refine H_put (i := 19) 41 (v := .bool true) rfl rfl (by kernel_rfl) (by kernel_rfl) (by kernel_rfl) (fun _ _ _ h => h) (Or.inl ⟨by rfl, fun w' hw' => ?_⟩) hS ?_
  · go_simp
  simp only [Act.put, List.setIfInBounds_toArray, List.set_cons_zero, List.set_cons_succ]
  refine wpAnyH_done (by kernel_rfl) ?_ _
  go_wp2
  go_ret
  exact ⟨rfl, HQ1.out.2.1.trans ((Touch.refl _ _).drew.trans (HA2.out.trans HA4.out))⟩
set_option maxRecDepth 100000 in
set_option maxHeartbeats 2000000 in
theorem lappend_ok {w : World} {O : Nat → Prop} {l p : Nat} {gv tv : Value} {hs : List Part} {L : LS} (h : IsLogV w O l p gv tv hs L) (hk : L.Ok) (hcl : L.cl = false) (a : Option Addr) (bs : List UInt8) (n cap : Nat) (hn : bs.length = n) (hA : At w a bs) (hb : n ≤ 4096)
    (hr : W.secs (W.gbytes (L.R ++ [bs])).length ≤ L.ct - W.usedOf L.G) :
    Calls Tryz.prog 13 #[Ptr l, .slice a n cap] w (PApp w O l p { L with R := L.R ++ [bs] } 0) := by
  obtain ⟨ta, tc, htv, htc, hta, htq⟩ := own_cq h.texts
  subst htv
  have hl := hk.len
  obtain ⟨m, hm⟩ : ∃ m, m = (W.texts L.R).length := ⟨_, rfl⟩
  obtain ⟨k, hkr⟩ : ∃ k, k = L.R.length := ⟨_, rfl⟩
  obtain ⟨us, hus⟩ : ∃ us, us = W.usedOf L.G := ⟨_, rfl⟩
  obtain ⟨ct, hct⟩ : ∃ ct, ct = L.ct := ⟨_, rfl⟩
  have husb : us ≤ ct ∧ ct ≤ 10000 := by rw [hus, hct]; exact ⟨hk.us, hk.ct⟩
  have HB := hid (show w.heap[l]? = some (.cells #[Ptr p, .int .i64 (L.fr : Int), .int .i64 (ct : Int), .int .i64 (L.ep : Int), .bool false, gv, .int .i64 (us : Int), .int .i64 (k : Int), .slice ta m tc] 83 (0, 0)) by rw [hct, hus, hkr, hm, ← hcl]; exact h.box)
  have c0 : w.cell? ⟨l, 0, none⟩ = some (Ptr p) := cellOf HB.out 0
  have c4 : w.cell? ⟨l, 4, none⟩ = some (.bool false) := cellOf HB.out 4
  have H := hid (lmade_yes l p w c0)
  have h' : ¬ (4096 : Int) < (n : Int) := by omega
  have hcv : (convert 56 9 (.slice a n cap)).run Tryz.prog w = .ok (.string ⟨bs.toArray⟩) w := by rw [← hn]; exact conv_at w a bs cap hA
  have HP := hid (putText_any none [] 0 bs w (by decide) (by omega) (fun _ => rfl) (At.nil _ _))
  obtain ⟨tl, htl⟩ : ∃ tl, tl = (W.text bs).length := ⟨_, rfl⟩
  have htl2 : tl ≤ 5000 := by rw [htl, W.text, List.length_append]; have := M.len_enc10 (n := bs.length) (by omega); omega
  obtain ⟨nl, hnl⟩ : ∃ nl, nl = (M.enc (k + 1)).length := ⟨_, rfl⟩
  have hnl2 : nl ≤ 10 := by rw [hnl]; exact M.len_enc10 (by omega)
  have hm2 : m ≤ 2330000 := by rw [hm]; exact hl.1
  have hk2 : k ≤ 2330000 := by rw [hkr]; exact hl.2
  have hg : (W.gbytes (L.R ++ [bs])).length = nl + m + tl := by rw [W.gbytes, show (L.R ++ [bs]).length = k + 1 by simp [hkr], List.length_append, W.texts_app, W.texts_one, List.length_append, ← hnl, ← hm, ← htl]; omega
  rw [hg] at hr
  have HN := hid (fun w' => show Calls Tryz.prog 41 #[.int .i64 ((k : Int) + 1)] w' (POwn w' (M.enc (k + 1))) by rw [show (k : Int) + 1 = ((k + 1 : Nat) : Int) by omega]; exact number_any (k + 1) w' (by omega))
  have HS := hid (fun w' => show Calls Tryz.prog 40 #[.int .i64 ((nl : Int) + m + tl)] w' (Tells (.int .i64 (W.secs (nl + m + tl) : Int)) w') by rw [show (nl : Int) + m + tl = ((nl + m + tl : Nat) : Int) by omega]; exact sectorsOf_any (nl + m + tl) w' (by omega))
  have HR := hid (fun w' (hb' : w'.heap[l]? = some (.cells #[Ptr p, .int .i64 (L.fr : Int), .int .i64 (ct : Int), .int .i64 (L.ep : Int), .bool false, gv, .int .i64 (us : Int), .int .i64 (k : Int), .slice ta m tc] 83 (0, 0))) => lroom_any l (ct : Int) (us : Int) w' (cellOf hb' 2) (cellOf hb' 6) (by omega) (by omega) (by omega))
  obtain ⟨sc, hsc⟩ : ∃ sc, sc = W.secs (nl + m + tl) := ⟨_, rfl⟩
  rw [← hsc] at HS hr
  have hr' : ¬ ((ct : Int) - us < sc) := by rw [← hus, ← hct] at hr; omega
  have HH := hid h
  have HK := hid (And.intro hg (And.intro hm (And.intro hkr (And.intro hus (And.intro hct (And.intro htl (And.intro hnl (And.intro hta (And.intro htq hcl)))))))))
  clear hg hm hkr hus hct htl hnl hsc hr hl htc hta htq hk h hA hn hcl
  go_enter Tryz.func13, Tryz.ntmps13
  go_upto_region 8 with (first
    | (go_at_call 38; refine H.out.mono ?_; rintro e _ ⟨rfl, hw⟩; rw [hw]; clear hw)
    | (go_at_call 39; refine HP.out.mono ?_; rintro e w1 ⟨v1, rfl, o1, A1⟩; obtain ⟨ea, ec, hv1, q1, q2, q3⟩ := own_cq o1; rw [List.nil_append] at hv1 q3 o1; have hv2 : v1 = .slice ea tl ec := by rw [hv1, HK.out.2.2.2.2.2.1]; rfl
       subst hv2; obtain ⟨eb, eo, hea⟩ := q3.at.ad (W.text_pos bs); subst hea; have HQ1 := hid (And.intro o1 (And.intro A1 (And.intro q2 q3))); clear o1 A1 q1 q2 q3 hv1))
  refine H_begin (S := fun w' : World => w'.heap[l]? = some (.cells #[Ptr p, .int .i64 (L.fr : Int), .int .i64 (ct : Int), .int .i64 (L.ep : Int), .bool false, gv, .int .i64 (us : Int), .int .i64 (k : Int), .slice ta m tc] 83 (0, 0))) (by kernel_rfl) ?_
  have hS : (fun w' : World => w'.heap[l]? = some (.cells #[Ptr p, .int .i64 (L.fr : Int), .int .i64 (ct : Int), .int .i64 (L.ep : Int), .bool false, gv, .int .i64 (us : Int), .int .i64 (k : Int), .slice ta m tc] 83 (0, 0))) w1.drew := (HQ1.out.2.1.at' HB.out id)
  refine H_put (i := 0) 22 (v := Ptr l) rfl rfl (by kernel_rfl) (by kernel_rfl) (by kernel_rfl) (fun _ _ _ h => h) (Or.inl ⟨by rfl, fun w' hw' => ?_⟩) hS ?_
  · go_simp
  simp only [Act.put, List.setIfInBounds_toArray, List.set_cons_zero, List.set_cons_succ]
  refine H_put (i := 1) 23 (v := Ptr l) rfl rfl (by kernel_rfl) (by kernel_rfl) (by kernel_rfl) (fun _ _ _ h => h) (Or.inl ⟨by rfl, fun w' hw' => ?_⟩) hS ?_
  · go_simp
  simp only [Act.put, List.setIfInBounds_toArray, List.set_cons_zero, List.set_cons_succ]
  refine H_put (i := 2) 24 (v := .pointer (some ⟨l, 7, none⟩)) rfl rfl (by kernel_rfl) (by kernel_rfl) (by kernel_rfl) (fun _ _ _ h => h) (Or.inl ⟨by rfl, fun w' hw' => ?_⟩) hS ?_
  · go_simp
  simp only [Act.put, List.setIfInBounds_toArray, List.set_cons_zero, List.set_cons_succ]
  refine H_put (i := 3) 25 (v := .int .i64 (k : Int)) rfl rfl (by kernel_rfl) (by kernel_rfl) (by kernel_rfl) (fun _ _ _ h => h) (Or.inl ⟨by rfl, fun w' hw' => ?_⟩) hS ?_
  · have c : w'.cell? ⟨l, 7, none⟩ = some (.int .i64 (k : Int)) := cellOf (hw') 7; go_simp
  simp only [Act.put, List.setIfInBounds_toArray, List.set_cons_zero, List.set_cons_succ]
  refine H_put (i := 4) 26 (v := .int .i64 ((k : Int) + 1)) rfl rfl (by kernel_rfl) (by kernel_rfl) (by kernel_rfl) (fun _ _ _ h => h) (Or.inl ⟨by rfl, fun w' hw' => ?_⟩) hS ?_
  · go_simp; rw [IntKind.wrap_i64]; omega
  simp only [Act.put, List.setIfInBounds_toArray, List.set_cons_zero, List.set_cons_succ]
  refine H_put (i := 7) 29 (v := Ptr l) rfl rfl (by kernel_rfl) (by kernel_rfl) (by kernel_rfl) (fun _ _ _ h => h) (Or.inl ⟨by rfl, fun w' hw' => ?_⟩) hS ?_
  · go_simp
  simp only [Act.put, List.setIfInBounds_toArray, List.set_cons_zero, List.set_cons_succ]
  refine H_put (i := 8) 30 (v := Ptr l) rfl rfl (by kernel_rfl) (by kernel_rfl) (by kernel_rfl) (fun _ _ _ h => h) (Or.inl ⟨by rfl, fun w' hw' => ?_⟩) hS ?_
  · go_simp
  simp only [Act.put, List.setIfInBounds_toArray, List.set_cons_zero, List.set_cons_succ]
  refine H_put (i := 9) 31 (v := .pointer (some ⟨l, 8, none⟩)) rfl rfl (by kernel_rfl) (by kernel_rfl) (by kernel_rfl) (fun _ _ _ h => h) (Or.inl ⟨by rfl, fun w' hw' => ?_⟩) hS ?_
  · go_simp
  simp only [Act.put, List.setIfInBounds_toArray, List.set_cons_zero, List.set_cons_succ]
  refine H_put (i := 10) 32 (v := .slice ta m tc) rfl rfl (by kernel_rfl) (by kernel_rfl) (by kernel_rfl) (fun _ _ _ h => h) (Or.inl ⟨by rfl, fun w' hw' => ?_⟩) hS ?_
  · have c : w'.cell? ⟨l, 8, none⟩ = some (.slice ta m tc) := cellOf (hw') 8; go_simp
  simp only [Act.put, List.setIfInBounds_toArray, List.set_cons_zero, List.set_cons_succ]
  refine H_put (i := 11) 33 (v := .int .i64 (m : Int)) rfl rfl (by kernel_rfl) (by kernel_rfl) (by kernel_rfl) (fun _ _ _ h => h) (Or.inl ⟨by rfl, fun w' hw' => ?_⟩) hS ?_
  · go_simp
  simp only [Act.put, List.setIfInBounds_toArray, List.set_cons_zero, List.set_cons_succ]
  refine H_put (i := 13) 35 (v := .slice (some ⟨eb, eo, none⟩) tl ec) rfl rfl (by kernel_rfl) (by kernel_rfl) (by kernel_rfl) (fun _ _ _ h => h) (Or.inl ⟨by rfl, fun w' hw' => ?_⟩) hS ?_
  · go_simp
  simp only [Act.put, List.setIfInBounds_toArray, List.set_cons_zero, List.set_cons_succ]
  refine H_put (i := 14) 36 (v := .int .i64 (tl : Int)) rfl rfl (by kernel_rfl) (by kernel_rfl) (by kernel_rfl) (fun _ _ _ h => h) (Or.inl ⟨by rfl, fun w' hw' => ?_⟩) hS ?_
  · go_simp
  simp only [Act.put, List.setIfInBounds_toArray, List.set_cons_zero, List.set_cons_succ]
  refine H_put (i := 17) 39 (v := Ptr l) rfl rfl (by kernel_rfl) (by kernel_rfl) (by kernel_rfl) (fun _ _ _ h => h) (Or.inl ⟨by rfl, fun w' hw' => ?_⟩) hS ?_
  · go_simp
  simp only [Act.put, List.setIfInBounds_toArray, List.set_cons_zero, List.set_cons_succ]
  refine H_call (i := 5) 27 41 #[.int .i64 ((k : Int) + 1)] (by kernel_rfl) rfl rfl (by rfl) (by go_simp) (HN.out w1.drew) ?_
  rintro e w2 ⟨v2, rfl, o2, A2⟩
  obtain ⟨na, nc, hv2, _, _, _⟩ := own_cq o2
  rw [← HK.out.2.2.2.2.2.2.1] at hv2
  subst hv2
  have HA2 := hid A2
  have HB2 := hid (A2.at' hS id)
  clear A2 o2
  have hS2 : (fun w' : World => w'.heap[l]? = some (.cells #[Ptr p, .int .i64 (L.fr : Int), .int .i64 (ct : Int), .int .i64 (L.ep : Int), .bool false, gv, .int .i64 (us : Int), .int .i64 (k : Int), .slice ta m tc] 83 (0, 0))) _ := HB2.out
  refine ⟨_, _, rfl, hS2, fun w' h => h, ?_⟩
  clear hS; have hS := hS2; clear hS2
  simp only [Act.put, List.setIfInBounds_toArray, List.set_cons_zero, List.set_cons_succ]
  refine H_put (i := 6) 28 (v := .int .i64 (nl : Int)) rfl rfl (by kernel_rfl) (by kernel_rfl) (by kernel_rfl) (fun _ _ _ h => h) (Or.inl ⟨by rfl, fun w' hw' => ?_⟩) hS ?_
  · go_simp
  simp only [Act.put, List.setIfInBounds_toArray, List.set_cons_zero, List.set_cons_succ]
  refine H_put (i := 12) 34 (v := .int .i64 ((nl : Int) + m)) rfl rfl (by kernel_rfl) (by kernel_rfl) (by kernel_rfl) (fun _ _ _ h => h) (Or.inl ⟨by rfl, fun w' hw' => ?_⟩) hS ?_
  · go_simp; rw [IntKind.wrap_i64]; omega
  simp only [Act.put, List.setIfInBounds_toArray, List.set_cons_zero, List.set_cons_succ]
  refine H_put (i := 15) 37 (v := .int .i64 ((nl : Int) + m + tl)) rfl rfl (by kernel_rfl) (by kernel_rfl) (by kernel_rfl) (fun _ _ _ h => h) (Or.inl ⟨by rfl, fun w' hw' => ?_⟩) hS ?_
  · go_simp; rw [IntKind.wrap_i64]; omega
  simp only [Act.put, List.setIfInBounds_toArray, List.set_cons_zero, List.set_cons_succ]
  refine H_call (i := 16) 38 40 #[.int .i64 ((nl : Int) + m + tl)] (by kernel_rfl) rfl rfl (by rfl) (by go_simp) (HS.out w2) ?_
  rintro e w3 ⟨rfl, hw3⟩
  rw [hw3]
  have hS2 : (fun w' : World => w'.heap[l]? = some (.cells #[Ptr p, .int .i64 (L.fr : Int), .int .i64 (ct : Int), .int .i64 (L.ep : Int), .bool false, gv, .int .i64 (us : Int), .int .i64 (k : Int), .slice ta m tc] 83 (0, 0))) _ := hS
  refine ⟨_, _, rfl, hS2, fun w' h => h, ?_⟩
  clear hS; have hS := hS2; clear hS2
  simp only [Act.put, List.setIfInBounds_toArray, List.set_cons_zero, List.set_cons_succ]
  refine H_call (i := 18) 40 19 #[Ptr l] (by kernel_rfl) rfl rfl (by rfl) (by go_simp) (HR.out w2 HB2.out) ?_
  rintro e w4 ⟨rfl, A4⟩
  have HA4 := hid A4
  have HB4 := hid (A4.at' HB2.out id)
  clear A4
  have hS2 : (fun w' : World => w'.heap[l]? = some (.cells #[Ptr p, .int .i64 (L.fr : Int), .int .i64 (ct : Int), .int .i64 (L.ep : Int), .bool false, gv, .int .i64 (us : Int), .int .i64 (k : Int), .slice ta m tc] 83 (0, 0))) _ := HB4.out
  refine ⟨_, _, rfl, hS2, fun w' h => h, ?_⟩
  clear hS; have hS := hS2; clear hS2
  simp only [Act.put, List.setIfInBounds_toArray, List.set_cons_zero, List.set_cons_succ]
  refine H_put (i := 19) 41 (v := .bool false) rfl rfl (by kernel_rfl) (by kernel_rfl) (by kernel_rfl) (fun _ _ _ h => h) (Or.inl ⟨by rfl, fun w' hw' => ?_⟩) hS ?_
  · go_simp
  simp only [Act.put, List.setIfInBounds_toArray, List.set_cons_zero, List.set_cons_succ]
  refine wpAnyH_done (by kernel_rfl) ?_ _
  have A4 : Adds w w4 := HQ1.out.2.1.trans ((Touch.refl _ _).drew.trans (HA2.out.trans HA4.out))
  have HA := hid A4
  have HO := hid (row_touch HH.out.texts A4 (fun _ _ => id))
  have HT := hid (((HQ1.out.2.2.2.at.adds (Touch.refl _ w1).drew).adds HA2.out).adds HA4.out)
  rw [← HK.out.2.1] at HO
  clear A4
  have c84 : w4.cell? ⟨l, 8, none⟩ = some (.slice ta m tc) := cellOf HB4.out 8
  go_wp2_with (first
    | (at_builtin; refine append_t rfl _ _ rfl (.slice ta m tc) m (S (W.texts L.R)) rfl HO.out ⟨eb, eo, none⟩ (W.text bs) tl ec HK.out.2.2.2.2.2.1.symm rfl HT.out (by omega) ?_; intro v5 w5 G5
       obtain ⟨va, vc, hv5, _, _, _⟩ := own_cq G5.1
       subst hv5
       have HG := hid G5
       have HB5 := hid (G5.touch.at' HB4.out (by rw [HK.out.2.1]; exact HH.out.ne.2.1))
       clear G5
       have c7 : w5.cell? ⟨l, 7, none⟩ = some (.int .i64 (k : Int)) := cellOf HB5.out 7
       have c8 : w5.cell? ⟨l, 8, none⟩ = some (.slice ta m tc) := cellOf HB5.out 8
       have f7 : w5.frozen? ⟨l, 7, none⟩ = false := frozen_of_row w5 l 7 _ 83 HB5.out
       have f8 : w5.frozen? ⟨l, 8, none⟩ = false := frozen_of_row w5 l 8 _ 83 HB5.out))
  go_ret
  exact app_mem HH.out HA.out HG.out HB5.out HK.out.2.1 HK.out.2.2.1 HK.out.2.2.2.1 HK.out.2.2.2.2.1 HK.out.2.2.2.2.2.1 HK.out.2.2.2.2.2.2.2.2.2
/-! The answer, and the state behind it. -/
def appE (L : LS) (bs : List UInt8) : Int := if L.cl = true then 42 else if 4096 < bs.length then 3 else if W.secs (W.gbytes (L.R ++ [bs])).length ≤ L.ct - W.usedOf L.G then 0 else 31
def appL (L : LS) (bs : List UInt8) : LS := if appE L bs = 0 then { L with R := L.R ++ [bs] } else L
set_option maxRecDepth 100000 in
theorem LS.Ok.app {L : LS} (h : L.Ok) (bs : List UInt8) : (appL L bs).Ok := by
  unfold appL
  split
  · rename_i h0
    unfold appE at h0
    split at h0
    · cases h0
    · split at h0
      · cases h0
      · split at h0
        · rename_i hs
          exact ⟨h.fr, h.ct, h.ep, h.us, fun _ => hs, h.good⟩
        · cases h0
  · exact h
theorem IsLog.same {w : World} {O : Nat → Prop} {l p : Nat} {L : LS} (h : IsLog w O l p L) {z : Int} {w' : World} (hA : Adds w w') : PApp w O l p L z (.returned (.int .i64 z)) w' := ⟨rfl, O, h.adds hA, hA.mono (fun _ _ c => c.elim), fun _ hk => .inl hk⟩
set_option maxRecDepth 100000 in
theorem lappend_any {w : World} {O : Nat → Prop} {l p : Nat} {L : LS} (h : IsLog w O l p L) (hk : L.Ok) (a : Option Addr) (bs : List UInt8) (n cap : Nat) (hn : bs.length = n) (hA : At w a bs) : Calls Tryz.prog 13 #[Ptr l, .slice a n cap] w (PApp w O l p (appL L bs) (appE L bs)) := by
  have hL := h
  obtain ⟨gv, tv, hs, h⟩ := h
  have c0 : w.cell? ⟨l, 0, none⟩ = some (Ptr p) := cellOf h.box 0
  have c4 : w.cell? ⟨l, 4, none⟩ = some (.bool L.cl) := cellOf h.box 4
  by_cases hc : L.cl = true
  · have e1 : appE L bs = 42 := by rw [appE, if_pos hc]
    have e2 : appL L bs = L := by rw [appL, e1]; rfl
    rw [e1, e2]
    rw [hc] at c4
    refine (lappend_closed l p a n cap w c0 c4).mono ?_
    rintro e w' ⟨rfl, hw⟩
    rw [hw]
    exact hL.same (Touch.refl _ _)
  · have hc' : L.cl = false := by simpa using hc
    rw [hc'] at c4
    by_cases hb : 4096 < bs.length
    · have e1 : appE L bs = 3 := by rw [appE, if_neg hc, if_pos hb]
      have e2 : appL L bs = L := by rw [appL, e1]; rfl
      rw [e1, e2]
      refine (lappend_big l p a n cap w c0 c4 (by omega)).mono ?_
      rintro e w' ⟨rfl, hw⟩
      rw [hw]
      exact hL.same (Touch.refl _ _)
    · by_cases hr : W.secs (W.gbytes (L.R ++ [bs])).length ≤ L.ct - W.usedOf L.G
      · have e1 : appE L bs = 0 := by rw [appE, if_neg hc, if_neg hb, if_pos hr]
        have e2 : appL L bs = { L with R := L.R ++ [bs] } := by rw [appL, if_pos e1]
        rw [e1, e2]
        exact lappend_ok h hk hc' a bs n cap hn hA (by omega) hr
      · have e1 : appE L bs = 31 := by rw [appE, if_neg hc, if_neg hb, if_neg hr]
        have e2 : appL L bs = L := by rw [appL, e1]; rfl
        rw [e1, e2]
        refine (lappend_full h hk hc' a bs n cap hn hA (by omega) hr).mono ?_
        rintro e w' ⟨rfl, hw⟩
        exact hL.same hw
end Go.Proofs.YtllkplanjfnnmaaGreatDoor
