/- Texts put together: GMM, GMaps. -/
import Derived.Test.YtokbiekdompaoaaDoorQ43
/- Spaces of up to three maps whose first pages are taken, by definition. -/
namespace Go.Proofs.YtokbiekdompaoaaDoor
namespace G

set_option maxRecDepth 100000 in
theorem at_heldG {s : F.Po} {no : Int} {f : F.Fr} (hn : F.need s no = false) (hf : f.no = no) (k : Int) : F.at? (F.held s no f).L k = if k = no then some f else F.at? s.L k := by
  have ho : F.out s no = s.L := by unfold F.out; rw [hn]; rfl
  unfold F.held F.at?
  rw [ho]
  show (F.sansF s.L no ++ [f]).find? _ = _
  rw [List.find?_append]
  unfold F.sansF
  rw [List.find?_filter]
  by_cases q : k = no
  · subst q
    have e : (s.L.find? fun a => decide (decide (a.no ≠ k) = true ∧ decide (a.no = k) = true)) = none := by
      rw [List.find?_eq_none]
      intro a _
      simp
    rw [e, if_pos rfl]
    simp [hf]
  · rw [if_neg q]
    have e : (s.L.find? fun a => decide (decide (a.no ≠ no) = true ∧ decide (a.no = k) = true)) = s.L.find? fun a => decide (a.no = k) := by
      congr 1
      funext a
      by_cases c : a.no = k
      · simp [c, q]
      · simp [c]
    rw [e]
    have e2 : ([f].find? fun g => decide (g.no = k)) = none := by
      rw [List.find?_eq_none]
      intro a ha
      rw [List.mem_singleton.1 ha, hf]
      simpa using fun c => q c.symm
    rw [e2]
    simp
set_option maxRecDepth 100000 in
theorem need_some {s : F.Po} {no : Int} {f : F.Fr} (h : F.at? s.L no = some f) : F.need s no = false := by
  unfold F.need
  rw [h]
  rfl
/-- Bits of bytes: the first t alone. -/
def Bx (c : Nat) (x : List UInt8) (t : Nat) : Prop := x.length = cells c 0 ∧ ∀ i, bit x i = decide (i < t)
def Xk (c : Nat) (x : List UInt8) (k : Nat) : List UInt8 := if k = 0 then x else List.replicate (cells c k) 0
set_option maxRecDepth 100000 in
theorem Xk_len {c k : Nat} {x : List UInt8} (hx : x.length = cells c 0) : (Xk c x k).length ≤ 240 := by
  unfold Xk
  split
  · rw [hx]; exact cells_le c 0
  · rw [List.length_replicate]; exact cells_le c k
/-- The frame of the k-th map. -/
def Fk (c : Nat) (x : List UInt8) (k : Nat) : F.Fr := ⟨(k : Int), pg k (Xk c x k), [], true, false⟩
/-- A pool that holds all maps. -/
structure Hm (c : Nat) (x : List UInt8) (s : F.Po) : Prop where
  ct : s.ct = (c : Int)
  all : ∀ k, k < maps c → F.at? s.L (k : Int) = some (Fk c x k)
section
variable {c t : Nat} {x : List UInt8} {s : F.Po} {D : dSt}
set_option maxRecDepth 100000 in
theorem Bx.may (h : Bx c x t) (h1 : maps c ≤ t) (h2 : t ≤ c) : G.may c 0 x = true := by
  refine may_of h.1 (fun i _ => ?_)
  unfold wrong
  rw [h.2 i, Nat.mul_zero, Nat.zero_add]
  by_cases q : i < t
  · simp [q]; omega
  · simp [q]; omega
set_option maxRecDepth 100000 in
theorem Xk_may (h : Bx c x t) (h1 : maps c ≤ t) (h2 : t ≤ c) (hm : maps c ≤ 3) {k : Nat} (_ : k < maps c) : G.may c k (Xk c x k) = true := by
  unfold Xk
  split
  · rename_i q; rw [q]; exact h.may h1 h2
  · rename_i q
    refine may_of (by rw [List.length_replicate]) (fun i _ => ?_)
    unfold wrong
    rw [zeros_bit]
    simp
    omega
set_option maxRecDepth 100000 in
theorem Hm.cnt (h : Hm c x s) : G.cnt s = c := by unfold G.cnt; rw [h.ct]; omega
set_option maxRecDepth 100000 in
theorem Hm.inP (h : Hm c x s) {k : Nat} (hk : k < maps c) : F.inPool s (k : Int) = true := by
  have := maps_lt hk
  unfold F.inPool
  rw [h.ct]
  simp
  omega
set_option maxRecDepth 100000 in
theorem Hm.get (h : Hm c x s) {k : Nat} (hk : k < maps c) (D : dSt) : F.getE s D (k : Int) = 0 ∧ F.getB s D (k : Int) = pg k (Xk c x k) ∧ Hm c x (F.getS s D (k : Int)) := by
  have ha := h.all k hk
  have e1 : F.getE s D (k : Int) = 0 := by unfold F.getE; rw [h.inP hk, ha]; rfl
  have eF : F.getF s D (k : Int) = Fk c x k := by unfold F.getF; rw [ha]
  refine ⟨e1, by unfold F.getB; rw [if_pos e1, eF]; rfl, ?_⟩
  have eS : F.getS s D (k : Int) = F.held s (k : Int) (Fk c x k) := by unfold F.getS; rw [if_pos e1, eF]
  rw [eS]
  refine ⟨h.ct, fun j hj => ?_⟩
  rw [at_heldG (need_some ha) rfl]
  split
  · rename_i q
    have : j = k := by omega
    rw [this]
  · exact h.all j hj
set_option maxRecDepth 100000 in
theorem Hm.map (h : Hm c x s) (hb : Bx c x t) (h1 : maps c ≤ t) (h2 : t ≤ c) (hm : maps c ≤ 3) {k : Nat} (hk : k < maps c) (D : dSt) : mapE s D k = 0 ∧ mapB s D k = Xk c x k := by
  obtain ⟨e1, e2, _⟩ := h.get hk D
  have hg : gm (G.cnt s) k (F.getB s D (k : Int)) = some (Xk c x k) := by rw [h.cnt, e2, gm_pg (by omega) (Xk_len hb.1), if_pos (Xk_may hb h1 h2 hm hk)]
  exact ⟨by unfold mapE; rw [if_pos e1, hg]; rfl, by unfold mapB; rw [if_pos e1, hg]; rfl⟩
set_option maxRecDepth 100000 in
theorem Hm.put (h : Hm c x s) (h0 : 0 < maps c) {y : List UInt8} (hy : y.length ≤ 240) : F.putE s ((0 : Nat) : Int) (pg 0 y) = 0 ∧ Hm c y (F.putS s ((0 : Nat) : Int) (pg 0 y)) := by
  have ha := h.all 0 h0
  have hr : F.room s ((0 : Nat) : Int) = true := by unfold F.room; rw [need_some ha]; rfl
  have e1 : F.putE s ((0 : Nat) : Int) (pg 0 y) = 0 := by
    unfold F.putE
    rw [h.inP h0, pg_read (by decide) hy]
    show (if ((0 : Nat) : Int) ≠ ((0 : Nat) : Int) then 23 else if F.room s ((0 : Nat) : Int) = true then 0 else 33) = 0
    rw [if_neg (by simp), if_pos hr]
  refine ⟨e1, ?_⟩
  have eB : F.wasB s ((0 : Nat) : Int) = [] := by unfold F.wasB; rw [ha]; rfl
  have eD : F.wasD s ((0 : Nat) : Int) = false := by unfold F.wasD; rw [ha]; rfl
  unfold F.putS
  rw [if_pos e1, nw_pg (by decide) hy, eB, eD]
  refine ⟨h.ct, fun j hj => ?_⟩
  rw [at_heldG (need_some ha) rfl]
  split
  · rename_i q
    have : j = 0 := by omega
    rw [this]; rfl
  · rename_i q
    have hj0 : j ≠ 0 := fun e => q (by rw [e])
    rw [h.all j hj]
    unfold Fk Xk
    rw [if_neg hj0, if_neg hj0]
set_option maxRecDepth 100000 in
/-- Alloc gives the next page. -/
theorem Hm.alloc (h : Hm c x s) (hb : Bx c x t) (h1 : maps c ≤ t) (h2 : t < c) (h3 : t < 1920) (hm : maps c ≤ 3) (h0 : 1 ≤ maps c) (D : dSt) : ∃ s', allocG D (maps c) 0 s = ((t : Int), 0, s') ∧ Hm c (flip x t) s' ∧ Bx c (flip x t) (t + 1) := by
  obtain ⟨e1, e2⟩ := h.map hb h1 (by omega) hm (k := 0) (by omega) D
  have hlt : t < 8 * x.length := by rw [hb.1]; unfold cells size; omega
  have hl : least (G.cnt s) 0 (mapB s D 0) = some t := by
    rw [h.cnt, e2]
    refine least_at (bs := x) hlt ?_ (fun i hi => ?_)
    · unfold isLeft; show (!bit x t && decide (1920 * 0 + t < c)) = true; rw [hb.2]; simp; omega
    · unfold isLeft; show (!bit x i && decide (1920 * 0 + i < c)) = false; rw [hb.2]; simp; omega
  obtain ⟨_, _, hg⟩ := h.get (k := 0) (by omega) D
  have hfl : (flip x t).length ≤ 240 := by rw [len_flip, hb.1]; exact cells_le c 0
  obtain ⟨p1, p2⟩ := hg.put (by omega) hfl
  have e2' : mapB s D 0 = x := e2
  obtain ⟨r, hr⟩ : ∃ r, maps c = r + 1 := ⟨maps c - 1, by omega⟩
  refine ⟨_, ?_, p2, by rw [len_flip]; exact hb.1, fun i => ?_⟩
  · rw [hr, alloc_ok (r := r) (k := 0) (i := t) e1 hl (by rw [e2']; exact p1), e2']
    simp
  · rw [bit_flip x i (by omega), hb.2]
    by_cases q : i = t
    · subst q; simp
    · by_cases q2 : i < t
      · simp [q, q2]; omega
      · simp [q, q2]; omega
set_option maxRecDepth 100000 in
/-- All are taken: there is one map. -/
theorem Hm.full (h : Hm c x s) (hb : Bx c x c) (hm1 : maps c = 1) (D : dSt) : ∃ s', allocG D (maps c) 0 s = (0, 30, s') := by
  obtain ⟨e1, e2⟩ := h.map hb (by rw [hm1]; have := maps_lt (c := c) (k := 0) (by omega); omega) (Nat.le_refl _) (by omega) (k := 0) (by omega) D
  have e2' : mapB s D 0 = x := e2
  have hl : least (G.cnt s) 0 (mapB s D 0) = none := by
    rw [h.cnt, e2']
    refine least_none (fun i _ => ?_)
    unfold isLeft
    rw [hb.2, Nat.mul_zero, Nat.zero_add]
    by_cases q : i < c <;> simp [q]
  exact ⟨_, by rw [hm1, alloc_next (r := 0) (k := 0) e1 hl]; rfl⟩
set_option maxRecDepth 100000 in
theorem tak_zero (k : Nat) (n m : Nat) : tak k (List.replicate n 0) m = [] := by
  unfold tak
  rw [List.filter_eq_nil_iff.2 (fun i _ => by rw [zeros_bit]; simp)]
  rfl
set_option maxRecDepth 100000 in
theorem Bx.takl (h : Bx c x t) (ht : t ≤ 8 * x.length) : (taken 0 x).length = t := by
  unfold taken tak
  rw [List.length_map]
  have key : ∀ m, t ≤ m → ((List.range m).filter (bit x)).length = t := by
    intro m hm
    induction m with
    | zero => simp; omega
    | succ m ih =>
      rw [List.range_succ, List.filter_append, List.length_append]
      by_cases q : t ≤ m
      · rw [ih q]
        have : bit x m = false := by rw [h.2]; simp; omega
        simp [this]
      · have e : t = m + 1 := by omega
        have e1 : (List.range m).filter (bit x) = List.range m := List.filter_eq_self.2 (fun i hi => by rw [h.2]; have := List.mem_range.1 hi; simp; omega)
        have e2 : bit x m = true := by rw [h.2]; simp; omega
        rw [e1, List.length_range]
        simp [e2, e]
  exact key _ ht
/-- Taken: as many as are taken. -/
theorem Hm.takenG (hb : Bx c x t) (h1 : maps c ≤ t) (h2 : t ≤ c) (hm : maps c ≤ 3) (D : dSt) : ∀ (r k : Nat) (s : F.Po) (l : List Int), r + k = maps c → Hm c x s → ∃ s', G.takenG D r k s l = (l ++ (if k = 0 ∧ 0 < r then taken 0 x else []), 0, s') ∧ Hm c x s'
  | 0, k, s, l, _, h => ⟨s, by unfold G.takenG; simp, h⟩
  | r + 1, k, s, l, hk, h => by
    obtain ⟨e1, e2⟩ := h.map hb h1 h2 hm (k := k) (by omega) D
    obtain ⟨_, _, hg⟩ := h.get (k := k) (by omega) D
    obtain ⟨s', q1, q2⟩ := Hm.takenG hb h1 h2 hm D r (k + 1) (F.getS s D (k : Int)) (l ++ taken k (mapB s D k)) (by omega) hg
    refine ⟨s', ?_, q2⟩
    rw [tk_next e1, q1, e2]
    by_cases q : k = 0
    · subst q
      simp [Xk]
    · simp [q, Xk, taken, tak_zero]
end
theorem firsts_bit (n : Nat) : ∀ m, m ≤ 8 * n → ∀ i, bit (firsts (List.replicate n 0) m) i = decide (i < m)
  | 0, _, i => by show bit (List.replicate n 0) i = _; rw [zeros_bit]; simp
  | m + 1, hm, i => by
    rw [firsts_more, bit_flip _ i (by rw [len_firsts, List.length_replicate]; omega), firsts_bit n m (by omega) i]
    by_cases q : i = m
    · subst q; simp
    · by_cases q2 : i < m
      · simp [q, q2]; omega
      · simp [q, q2]; omega
set_option maxRecDepth 100000 in
theorem first_Bx {c : Nat} (h1 : 1 ≤ c) (hm : maps c ≤ 3) : Bx c (first c 0) (maps c) := by
  have hp := maps_pos h1
  have hc := cells_pos (c := c) (k := 0) (by omega)
  refine ⟨len_first c 0, fun i => ?_⟩
  unfold first
  rw [show min (maps c - 1920 * 0) (8 * cells c 0) = maps c by omega]
  exact firsts_bit _ _ (by omega) i
set_option maxRecDepth 100000 in
theorem first_Xk {c k : Nat} (hm : maps c ≤ 3) : first c k = Xk c (first c 0) k := by
  unfold Xk
  split
  · rename_i q; rw [q]
  · rename_i q
    unfold first
    rw [show min (maps c - 1920 * k) (8 * cells c k) = 0 by omega]
    rfl
set_option maxRecDepth 100000 in
/-- Format: the first k maps have been put. -/
theorem format_Hm {c : Nat} (hm : maps c ≤ 3) : ∀ (r k : Nat) (s : F.Po), r + k = maps c → s.ct = (c : Int) → s.mo = 8 → s.L.length ≤ k → (∀ j, j < k → F.at? s.L (j : Int) = some (Fk c (first c 0) j)) → (∀ j, k ≤ j → F.at? s.L (j : Int) = none) → (formatG r k s).1 = 0 ∧ Hm c (first c 0) (formatG r k s).2
  | 0, k, s, hk, hct, _, _, h, _ => ⟨rfl, hct, fun j hj => h j (by omega)⟩
  | r + 1, k, s, hk, hct, hmo, hlen, h, hno => by
    have hcn : cnt s = c := by unfold cnt; rw [hct]; omega
    have hkm : k < maps c := by omega
    have hin : F.inPool s (k : Int) = true := by
      have := maps_lt hkm
      unfold F.inPool
      rw [hct]
      simp
      omega
    have ha := hno k (Nat.le_refl _)
    have hn : F.need s (k : Int) = false := by
      unfold F.need
      rw [ha, hmo]
      simp
      omega
    have hr : F.room s (k : Int) = true := by unfold F.room; rw [hn]; rfl
    have hfl : (first c k).length ≤ 240 := by rw [len_first]; exact cells_le c k
    have e1 : F.putE s (k : Int) (pg k (first c k)) = 0 := by
      unfold F.putE
      rw [hin, pg_read (by omega) hfl]
      show (if (k : Int) ≠ (k : Int) then 23 else if F.room s (k : Int) = true then 0 else 33) = 0
      rw [if_neg (by simp), if_pos hr]
    have eB : F.wasB s (k : Int) = [] := by unfold F.wasB; rw [ha]
    have eD : F.wasD s (k : Int) = false := by unfold F.wasD; rw [ha]
    have eS : F.putS s (k : Int) (pg k (first c k)) = F.held s (k : Int) (Fk c (first c 0) k) := by
      unfold F.putS
      rw [if_pos e1, nw_pg (by omega) hfl, eB, eD]
      unfold Fk
      rw [← first_Xk hm]
    have step : formatG (r + 1) k s = formatG r (k + 1) (F.putS s (k : Int) (pg k (first c k))) := by
      conv => lhs; unfold formatG
      rw [hcn, if_pos e1]
    rw [step, eS]
    refine format_Hm hm r (k + 1) _ (by omega) hct hmo ?_ (fun j hj => ?_) (fun j hj => ?_)
    · have ho : F.out s (k : Int) = s.L := by unfold F.out; rw [hn]; rfl
      show (F.sansF (F.out s (k : Int)) (k : Int) ++ [Fk c (first c 0) k]).length ≤ k + 1
      rw [List.length_append, ho]
      have := (F.sansF_sub s.L (k : Int)).length_le
      simp
      omega
    · rw [at_heldG hn rfl]
      split
      · rename_i q
        have : j = k := by omega
        rw [this]
      · rename_i q
        exact h j (by omega)
    · rw [at_heldG hn rfl, if_neg (by omega)]
      exact hno j (by omega)
set_option maxRecDepth 100000 in
theorem format_all {c : Nat} (h1 : 1 ≤ c) (hm : maps c ≤ 3) : (formatG (maps (cnt ⟨0, c, 8, []⟩)) 0 ⟨0, c, 8, []⟩).1 = 0 ∧ Hm c (first c 0) (formatG (maps (cnt ⟨0, c, 8, []⟩)) 0 ⟨0, c, 8, []⟩).2 := by
  have e0 : cnt ⟨0, c, 8, []⟩ = c := by show (c : Int).toNat = c; omega
  rw [e0]
  exact format_Hm hm (maps c) 0 _ (by omega) rfl rfl (Nat.le_refl _) (fun j hj => by omega) (fun j _ => rfl)
end G
end Go.Proofs.YtokbiekdompaoaaDoor

/- SpaceMaps. -/
namespace Go.Proofs.YtokbiekdompaoaaDoor
open Go.RowKit

set_option maxRecDepth 100000 in
theorem wrap13 (z : Int) : ∃ m : Nat, m < 13 ∧ wrap64 ((IntKind.u64.wrap z).tmod 13) = (m : Int) := by
  have h1 : IntKind.u64.wrap z = z % 18446744073709551616 := IntKind.wrap_u64 z
  have h0 : 0 ≤ z % 18446744073709551616 := Int.emod_nonneg _ (by decide)
  have h2 : z % 18446744073709551616 % 13 < 13 := Int.emod_lt_of_pos _ (by decide)
  have h3 : 0 ≤ z % 18446744073709551616 % 13 := Int.emod_nonneg _ (by decide)
  refine ⟨(z % 18446744073709551616 % 13).toNat, by omega, ?_⟩
  rw [h1, Int.tmod_eq_emod_of_nonneg h0]
  generalize z % 18446744073709551616 % 13 = q at *
  unfold wrap64
  omega
set_option maxRecDepth 100000 in
set_option maxHeartbeats 400000 in
theorem rmaps_any (w : World) (n : Nat) (hn : n < 1000000) : Calls Tryd.prog 11 #[.int .i64 (n : Int)] w (Tells (.int .i64 ((G.maps n : Nat) : Int)) w) := by
  have e : ((G.maps n : Nat) : Int) = ((n : Int) + 1919) / 1920 := by unfold G.maps; rfl
  rw [e]
  go_enter Tryd.func11, Tryd.ntmps11
  go_wp2_with fail
  go_ret
  exact ⟨congrArg (fun z => Ending.returned (Value.int .i64 z)) (by omega), rfl⟩
/-- What is known between two calls: t pages are taken, the first ones. -/
def Mz (w wr : World) (sp p dp c t n : Nat) : Prop := ∃ s x, LpX w wr [(sp, SBox p)] p dp s (dSt.new (c : Nat)) n 0 ∧ G.Hm c x s ∧ G.Bx c x t
section
variable {w wr : World} {sp p dp c t n : Nat}
set_option maxRecDepth 100000 in
theorem Mz.alloc (h : Mz w wr sp p dp c t n) (hn : n + 10 ≤ 1000000) (h1 : G.maps c ≤ t) (h2 : t < c) (h3 : t < 1920) (hm : G.maps c ≤ 3) (h0 : 1 ≤ G.maps c) :
    Calls Tryd.prog 12 #[Ptr sp] wr (fun e w' => e = .returned (.tuple #[.int .i64 (t : Int), .int .i64 0]) ∧ Hid (Mz w w' sp p dp c (t + 1) (n + 10))) := by
  obtain ⟨s, x, h, hH, hB⟩ := h
  have q := salloc_any h List.mem_cons_self hn (by decide)
  obtain ⟨s', e1, e2, e3⟩ := hH.alloc hB h1 h2 h3 hm h0 (dSt.new (c : Nat))
  rw [hH.cnt, e1] at q
  refine q.mono ?_
  rintro e w' ⟨rfl, H⟩
  exact ⟨rfl, s', _, H.out, e2, e3⟩
set_option maxRecDepth 100000 in
theorem Mz.full (h : Mz w wr sp p dp c c n) (hn : n + 10 ≤ 1000000) (hm : G.maps c = 1) :
    Calls Tryd.prog 12 #[Ptr sp] wr (fun e w' => e = .returned (.tuple #[.int .i64 0, .int .i64 30]) ∧ Hid (Adds w w')) := by
  obtain ⟨s, x, h, hH, hB⟩ := h
  have q := salloc_any h List.mem_cons_self hn (by decide)
  obtain ⟨s', e1⟩ := hH.full hB hm (dSt.new (c : Nat))
  rw [hH.cnt, e1] at q
  refine q.mono ?_
  rintro e w' ⟨rfl, H⟩
  exact ⟨rfl, H.out.e.adds⟩
set_option maxRecDepth 100000 in
theorem Mz.taken (h : Mz w wr sp p dp c t n) (hn : n + 10 ≤ 1000000) (h1 : G.maps c ≤ t) (h2 : t ≤ c) (h3 : t ≤ 1920) (hm : G.maps c ≤ 3) (h0 : 1 ≤ G.maps c) :
    Calls Tryd.prog 13 #[Ptr sp] wr (fun e w' => ∃ a cap, e = .returned (.tuple #[.slice a t cap, .int .i64 0]) ∧ Hid (Mz w w' sp p dp c t (n + 10))) := by
  obtain ⟨s, x, h, hH, hB⟩ := h
  have q := staken_any h List.mem_cons_self hn (by decide)
  obtain ⟨s', e1, e2⟩ := G.Hm.takenG hB h1 h2 hm (dSt.new (c : Nat)) (G.maps c) 0 s [] (by omega) hH
  have hl : (G.taken 0 x).length = t := hB.takl (by rw [hB.1]; unfold G.cells G.size; omega)
  rw [hH.cnt, e1] at q
  refine q.mono ?_
  rintro e w' ⟨v, Y, rfl, H⟩
  obtain ⟨a, cap, ev, _⟩ := H.out.2.2
  have el : ([] ++ (if 0 = 0 ∧ 0 < G.maps c then G.taken 0 x else []) : List Int).length = t := by rw [if_pos ⟨rfl, by omega⟩, List.nil_append, hl]
  refine ⟨a, cap, ?_, s', x, H.out.1.fewer H.out.2.1, e2, hB⟩
  rw [ev]
  show Ending.returned (.tuple #[.slice a ([] ++ (if 0 = 0 ∧ 0 < G.maps c then G.taken 0 x else []) : List Int).length cap, _]) = _
  rw [el]
  rfl
set_option maxRecDepth 100000 in
theorem Mz.left (h : Mz w wr sp p dp c t n) (hn : n + 10 ≤ 1000000) (h1 : G.maps c ≤ t) (h2 : t ≤ c) (h3 : t ≤ 1920) (hm : G.maps c ≤ 3) (h0 : 1 ≤ G.maps c) :
    Calls Tryd.prog 14 #[Ptr sp] wr (fun e w' => e = .returned (.tuple #[.int .i64 ((c : Int) - (t : Int)), .int .i64 0]) ∧ Hid (Adds w w')) := by
  obtain ⟨s, x, h, hH, hB⟩ := h
  have q := sleft_any h List.mem_cons_self hn (by decide)
  obtain ⟨s', e1, e2⟩ := G.Hm.takenG hB h1 h2 hm (dSt.new (c : Nat)) (G.maps c) 0 s [] (by omega) hH
  have hl : (G.taken 0 x).length = t := hB.takl (by rw [hB.1]; unfold G.cells G.size; omega)
  rw [hH.cnt, e1, hH.ct] at q
  refine q.mono ?_
  rintro e w' ⟨rfl, H⟩
  have el : ([] ++ (if 0 = 0 ∧ 0 < G.maps c then G.taken 0 x else []) : List Int).length = t := by rw [if_pos ⟨rfl, by omega⟩, List.nil_append, hl]
  refine ⟨?_, H.out.e.adds⟩
  show Ending.returned (.tuple #[.int .i64 (if (0 : Nat) = 0 then (c : Int) - (([] ++ (if 0 = 0 ∧ 0 < G.maps c then G.taken 0 x else []) : List Int).length : Nat) else 0), _]) = _
  rw [if_pos rfl, el]
  rfl
end
set_option maxRecDepth 100000 in
set_option maxHeartbeats 4000000 in
theorem maps12_ok (c : Nat) (hc : 1 ≤ c) (hc2 : c ≤ 4096) (many : Int) (w : World) (hT : Tab w) : Calls Tryd.prog 3 #[.int .i64 (c : Int), .int .i64 many] w (Adding (.bool true) w) := by
  have hm3 := G.maps_le hc2
  have hm1 := G.maps_pos hc
  have hmc : G.maps c ≤ c := by unfold G.maps; omega
  have HW := hid (fun w' (hA : Adds w w') => works12 w' (hT.adds hA))
  have HN := hid (new_yes (c : Int) w w.heap.size (Nat.le_refl _) (by omega) (by omega))
  have hok : F.openOk (dSt.new c) 0 c 8 = true := decide_eq_true ⟨by decide, by omega, by omega, by show (0 : Int) + c ≤ c; omega, by decide, by decide⟩
  have HO := hid (fun (w1 : World) (dp hb : Nat) (hd : IsDisk w1 0 dp hb (.slice none 0 0) (dSt.new c)) => show Calls Tryd.prog 8 #[Ptr dp, .int .i64 0, .int .i64 (c : Int), .int .i64 8] w1 (POpn w1 dp ⟨0, c, 8, []⟩) from bopen_ok (OD := fun k => k = dp ∨ k = hb) (k := 0) ⟨hb, _, hd, .inl rfl, .inr rfl, fun k hk => by cases hk⟩ (dnew_ok c 0 (by omega)) (by show (c : Int) ≤ 4096; omega) 0 c 8 hok)
  have HPk := hid (show POk ⟨0, c, 8, []⟩ (dSt.new c) from ⟨Int.le_refl _, by show (1 : Int) ≤ c; omega, by show (0 : Int) + c ≤ c; omega, by show (c : Int) ≤ 4096; omega, by show (1 : Int) ≤ 8; decide, by show (8 : Int) ≤ 256; decide⟩)
  obtain ⟨hf1, hf2⟩ := G.format_all hc hm3
  have HF := hid (fun (w2 : World) (p dp : Nat) (h : LpE w w2 p dp ⟨0, c, 8, []⟩ (dSt.new c) 0 0) => show Calls Tryd.prog 9 #[Ptr p] w2 (fun e w' => ∃ sp, e = .returned (.tuple #[Ptr sp, .int .i64 0]) ∧ Hid (Mz w w' sp p dp c (G.maps c) 10)) by
    refine (sformat_ok h.x (by omega) hf1).mono ?_
    rintro e w' ⟨sp, rfl, H⟩
    exact ⟨sp, rfl, _, _, H.out.1, hf2, G.first_Bx hc hm3⟩)
  have HD := hid (dnew_ok (c : Int) 0 (by omega))
  have HM := hid (fun (w' : World) (sp p dp t n : Nat) (h : Mz w w' sp p dp c t n) => show Calls Tryd.prog 10 #[Ptr sp] w' (Tells (.int .i64 ((G.maps c : Nat) : Int)) w') by
    obtain ⟨s, x, h, hH, _⟩ := h
    have q := smaps_any (h.spc List.mem_cons_self) (by rw [hH.cnt]; exact hc2)
    rw [hH.cnt] at q
    exact q)
  have HR := hid (fun w' => rmaps_any w' c (by omega))
  have HT := hid hT
  obtain ⟨m, hm13, hmz⟩ := wrap13 many
  obtain ⟨M, hM⟩ : ∃ M, M = G.maps c := ⟨_, rfl⟩
  rw [← hM] at HF HM HR hm3 hm1 hmc
  have HMM := hid (And.intro hM (And.intro hc hc2))
  have hbig : 2 ≤ M → 1920 < c := by intro q; rw [hM] at q; unfold G.maps at q; omega
  have HBig := hid hbig
  have hc9 : (c : Int) ≤ 4096 := by omega
  have hc1 : (1 : Int) ≤ c := by omega
  have hMz3 : (M : Int) ≤ 3 := by omega
  have hb0 : ((M : Int) != (M : Int)) = false := by simp
  unfold Ptr at *
  clear hT hok hf1 hf2 hM hbig
  go_enter Tryd.func3, Tryd.ntmps3
  go_upto_region 8 with (first
    | (go_at_call 6; refine HN.out.mono ?_; rintro e w1 ⟨dp, hb, rfl, hp, hhb, hd, hA1⟩; have H1 := hid (And.intro hp (And.intro hhb (And.intro (hd.mono (Nat.zero_le _)) hA1))); clear hd hA1 hp hhb)
    | (go_at_call 8; refine (HO.out w1 dp hb H1.out.2.2.1).mono ?_; rintro e w2 ⟨p, rfl, H2⟩)
    | (go_at_call 9; refine (HF.out w2 p dp (lp_new HT.out H1.out.2.2.2 H1.out.2.2.1 H1.out.1 H1.out.2.1 HD.out H2.out.1 H2.out.2 HPk.out)).mono ?_; rintro e w3 ⟨sp, rfl, H3⟩)
    | (go_at_call 10; refine (HM.out w3 sp p dp M 10 H3.out).mono ?_; rintro e w4 ⟨rfl, hw⟩; rw [hw]; clear hw)
    | (go_at_call 11; refine (HR.out _).mono ?_; rintro e w4 ⟨rfl, hw⟩; rw [hw]; clear hw))
  go_wp2_with fail
  rw [hmz]
  clear hmz HN HO HPk HF HD H1 H2
  go_loopw [60] (fun iv wr => ∃ i : Nat, iv = .int .i64 (i : Int) ∧ i ≤ m ∧ M + i ≤ c ∧ Hid (Mz w wr sp p dp c (M + i) (10 + 10 * i))) (fun iv _ => m - (intOf iv).toNat)
  case atStart => exact ⟨0, rfl, Nat.zero_le _, hmc, H3.out⟩
  case round =>
    obtain ⟨i, rfl, him, hMi, HI⟩ := hrel
    by_cases hlt : i < m
    · have hltz : (i : Int) < (m : Int) := by omega
      have hi12 : (i : Int) < 13 := by omega
      have hb1 : ((M : Int) + (i : Int) != (M : Int) + (i : Int)) = false := by simp
      by_cases hf : M + i < c
      · have hfz : ¬ (c : Int) ≤ (M : Int) + (i : Int) := by omega
        have HA := HI.out.alloc (by omega) (by rw [← HMM.out.1]; omega) hf (by omega) (by rw [← HMM.out.1]; exact hm3) (by rw [← HMM.out.1]; exact hm1)
        rw [show ((M + i : Nat) : Int) = (M : Int) + (i : Int) by omega] at HA
        have HA := hid HA
        unfold Ptr at *
        go_wp2_with (first
          | (go_at_call 12; refine HA.out.mono ?_; rintro e w5 ⟨rfl, H5⟩)
          | (go_at_call 11; refine (HR.out _).mono ?_; rintro e w6 ⟨rfl, hw⟩; rw [hw]; clear hw))
        go_roundw
        case rel => exact ⟨i + 1, by go_num, by omega, by omega, H5.out⟩
        case measure => simp [intOf]; omega
      · have hfz : (c : Int) ≤ (M : Int) + (i : Int) := by omega
        have hce : M + i = c := by omega
        have hM1 : M = 1 := by
          refine Classical.byContradiction fun q => ?_
          have := HBig.out (by omega)
          omega
        have HA := hid (show Calls Tryd.prog 12 #[.pointer (some ⟨sp, 0, none⟩)] wr (fun e w' => e = .returned (.tuple #[.int .i64 0, .int .i64 30]) ∧ Hid (Adds w w')) by
          have q := HI.out
          rw [hce] at q
          exact q.full (by omega) (by rw [← HMM.out.1]; exact hM1))
        clear hM1 hce
        go_wp2_with (first
          | (go_at_call 12; refine HA.out.mono ?_; rintro e w5 ⟨rfl, H5⟩)
          | (go_at_call 11; refine (HR.out _).mono ?_; rintro e w6 ⟨rfl, hw⟩; rw [hw]; clear hw))
        go_ret
        exact ⟨rfl, H5.out⟩
    · obtain rfl : i = m := by omega
      have hi12 : (i : Int) < 13 := by omega
      obtain ⟨t, ht⟩ : ∃ t, t = M + i := ⟨_, rfl⟩
      rw [← ht] at HI
      have g1 : G.maps c ≤ t := by rw [← HMM.out.1]; omega
      have g2 : t ≤ c := by omega
      have g3 : t ≤ 1920 := by omega
      have g4 : G.maps c ≤ 3 := by rw [← HMM.out.1]; exact hm3
      have g5 : 1 ≤ G.maps c := by rw [← HMM.out.1]; exact hm1
      have HTk := hid (show Calls Tryd.prog 13 #[.pointer (some ⟨sp, 0, none⟩)] wr _ from HI.out.taken (by omega) g1 g2 g3 g4 g5)
      have HLf := hid (fun w' (h : Mz w w' sp p dp c t (10 + 10 * i + 10)) => show Calls Tryd.prog 14 #[.pointer (some ⟨sp, 0, none⟩)] w' _ from h.left (by omega) g1 g2 g3 g4 g5)
      have hb1 : ((t : Int) == (M : Int) + (i : Int)) = true := by simp; omega
      have hb2 : ((c : Int) - (t : Int) == (c : Int) - (t : Int)) = true := by simp
      have ht9 : (t : Int) ≤ 1920 := by omega
      clear ht g1 g2 g3 g4 g5
      go_wp2_with (first
        | (go_at_call 13; refine HTk.out.mono ?_; rintro e w5 ⟨la, lc, rfl, H5⟩)
        | (go_at_call 14; refine (HLf.out w5 H5.out).mono ?_; rintro e w6 ⟨rfl, H6⟩)
        | (go_at_call 11; refine (HR.out _).mono ?_; rintro e w7 ⟨rfl, hw⟩; rw [hw]; clear hw)
        | (go_at_call 7; refine (HW.out _ H6.out).mono ?_; rintro e w8 ⟨rfl, h8⟩))
      go_ret
      exact ⟨rfl, H6.out.trans h8⟩
set_option maxRecDepth 100000 in
set_option maxHeartbeats 4000000 in
theorem maps12 (pages many : Int) (w : World) (hT : Tab w) : Calls Tryd.prog 3 #[.int .i64 pages, .int .i64 many] w (Adding (.bool true) w) := by
  by_cases h : pages < 1 ∨ 4096 < pages
  · have HN := hid (new_no pages w h)
    have HW := hid (works12 w hT)
    clear hT h
    go_enter Tryd.func3, Tryd.ntmps3
    go_wp2_with (first
      | (go_at_call 6; refine HN.out.mono ?_; rintro e w1 ⟨rfl, hw⟩; rw [hw]; clear hw)
      | (go_at_call 7; refine HW.out.mono ?_; rintro e w8 ⟨rfl, h8⟩))
    go_ret
    exact ⟨rfl, h8⟩
  · obtain ⟨c, rfl⟩ : ∃ c : Nat, pages = (c : Int) := ⟨pages.toNat, by omega⟩
    exact maps12_ok c (by omega) (by omega) many w hT
end Go.Proofs.YtokbiekdompaoaaDoor
