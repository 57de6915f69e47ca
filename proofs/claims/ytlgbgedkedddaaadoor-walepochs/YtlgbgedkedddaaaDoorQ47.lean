/- Texts put together: WEp2, WEp3. -/
import Derived.Test.YtlgbgedkedddaaaDoorQ46
import Derived.Test.YtlgbgedkedddaaaDoorQ28
import Derived.Test.YtlgbgedkedddaaaDoorQ24
/- What a cut Commit in a new epoch leaves, behind a loss that keeps all that waits. -/
namespace Go.Proofs.YtlgbgedkedddaaaDoor
open Go.RowKit
def cutN (z : Int) : Nat := (z % 18446744073709551616).toNat % 12
set_option maxRecDepth 100000 in
theorem cut_wrap (z : Int) : wrap64 ((IntKind.u64.wrap z).tmod 12) = (cutN z : Int) := by
  unfold cutN
  rw [IntKind.wrap_u64]
  have h0 : 0 ≤ z % 18446744073709551616 := Int.emod_nonneg _ (by decide)
  rw [Int.tmod_eq_emod_of_nonneg h0]
  unfold wrap64
  omega
set_option maxRecDepth 100000 in
theorem good_of {R : List (List UInt8)} (h : (L9 R).Ok) (hR : R ≠ []) : W.Good (W.gbytes R) ∧ W.secs (W.gbytes R).length ≤ 9 ∧ W.recs (W.gbytes R) = R := by
  have hw : W.secs (W.gbytes R).length ≤ 9 := by have q := h.wt hR; simpa [W.usedOf] using q
  have hl := secs_len hw
  have hr := W.recs_put R (by omega)
  exact ⟨⟨by omega, by rw [hr]; exact hR⟩, hw, hr⟩
/-- The groups that stand behind the loss. -/
def gone (D : dSt) : List (List UInt8) := (W.find 3 (secOf (D.lost (List.replicate D.W.length true) (-1) 0) 1) 9 0 [] [] 0).1
/-- How it ends. -/
def Fin (R : List (List UInt8)) (e : Int) (n sc : Nat) (G : List (List UInt8)) : Prop :=
  (R = [] ∧ e = 0 ∧ G = []) ∨ (R ≠ [] ∧ e = 0 ∧ G = [W.gbytes R]) ∨ (R ≠ [] ∧ e = 10 ∧ n = sc ∧ G = [W.gbytes R]) ∨ (R ≠ [] ∧ e = 10 ∧ n ≠ sc ∧ G = [])
set_option maxRecDepth 100000 in
theorem lost_sec (D : dSt) (i : Nat) : secOf (D.lost (List.replicate D.W.length true) (-1) 0) 1 i = hasOf D.H D.W ((1 + i : Nat) : Int) := by
  show hasOf (loseTo D.H D.W (List.replicate D.W.length true) (-1) 0 D.W.length) [] _ = _
  rw [lose_all _ (Nat.le_refl _), List.take_length]
  show syncH D.H D.W _ = _
  rw [syncH_has]
set_option maxRecDepth 100000 in
theorem cut_left {D : dSt} (h : Old D 9) (n : Int) : (D.cut n).left = n := by show (if D.left = 0 then 0 else n) = n; rw [h.left]; rfl
set_option maxRecDepth 100000 in
theorem fin_of {R : List (List UInt8)} {D : dSt} {n : Nat} (hD : Old D 9) (hk : (L9 R).Ok) : Fin R (comE (L9 R) (D.cut n)) (comD (L9 R) (D.cut n)).W.length (W.secs (W.gbytes R).length) (gone (comD (L9 R) (D.cut n))) ∧ (comD (L9 R) (D.cut n)).W.length ≤ 9 ∧ (comD (L9 R) (D.cut n)).size = 10 := by
  have hc : ¬ (L9 R).cl = true := by simp
  have hcl := cut_left hD (n : Int)
  have hsz : (D.cut (n : Int)).size = 10 := hD.size
  by_cases hR : R = []
  · subst hR
    rw [comE, comD, if_neg hc, if_neg hc, if_pos rfl, if_pos rfl]
    have hW : (D.cut (n : Int)).W = [] := hD.wait
    refine ⟨.inl ⟨rfl, rfl, ?_⟩, by rw [hW]; exact Nat.zero_le _, hsz⟩
    unfold gone
    rw [W.find_bad (by rw [lost_sec, hW]; exact hD.bad 0 (by decide))]
  · have hR' : ¬ (L9 R).R = [] := hR
    obtain ⟨hg, hs, hr⟩ := good_of hk hR
    rw [comE, comD, if_neg hc, if_neg hc, if_neg hR', if_neg hR']
    by_cases hn : W.secs (W.gbytes R).length < n
    · have e : comR (L9 R) (D.cut (n : Int)) = (0, (wroteN (D.cut (n : Int)) (fW 1 3 0 (W.gbytes R)) 0 (W.secs (W.gbytes R).length)).synced) := by
        unfold comR
        exact goW_all (.inr (by rw [hcl]; exact_mod_cast hn))
      rw [e]
      refine ⟨.inr (.inl ⟨hR, rfl, ?_⟩), Nat.zero_le _, ?_⟩
      · unfold gone
        rw [find_kept (H := D.H) (c := W.secs (W.gbytes R).length) hg hs (fun i hi => ?_) hD.bad (Nat.le_refl _), if_pos rfl]
        rw [lost_sec]
        show syncH (wroteN (D.cut (n : Int)) _ 0 _).H (wroteN (D.cut (n : Int)) _ 0 _).W _ = _
        rw [wroteN_H, wroteN_W, syncH_has, show (D.cut (n : Int)).W = [] from hD.wait, List.nil_append]
        have q := has_writes D.H 1 3 0 (W.gbytes R) i (W.secs (W.gbytes R).length)
        rw [Nat.add_zero] at q
        exact q
      · show (wroteN (D.cut (n : Int)) _ 0 _).size = _
        rw [wroteN_size]; exact hsz
    · have e : comR (L9 R) (D.cut (n : Int)) = (10, wroteN (D.cut (n : Int)) (fW 1 3 0 (W.gbytes R)) 0 n) := by
        unfold comR
        rw [goW_cut (by rw [hcl]; omega) (by rw [hcl]; show (n : Int) ≤ ((W.secs (W.gbytes R).length : Nat) : Int); omega), hcl]
        rfl
      rw [e]
      have hWn : (wroteN (D.cut (n : Int)) (fW 1 3 0 (W.gbytes R)) 0 n).W = (List.range n).map (fun j => fW 1 3 0 (W.gbytes R) (0 + j)) := by
        rw [wroteN_W, show (D.cut (n : Int)).W = [] from hD.wait, List.nil_append]
      have hl : (wroteN (D.cut (n : Int)) (fW 1 3 0 (W.gbytes R)) 0 n).W.length = n := by rw [hWn]; simp
      have hG : gone (wroteN (D.cut (n : Int)) (fW 1 3 0 (W.gbytes R)) 0 n) = if n = W.secs (W.gbytes R).length then [W.gbytes R] else [] := by
        unfold gone
        refine find_kept (H := D.H) (c := n) hg hs (fun i hi => ?_) hD.bad (by omega)
        rw [lost_sec, wroteN_H, hWn]
        have q := has_writes D.H 1 3 0 (W.gbytes R) i n
        rw [Nat.add_zero] at q
        exact q
      refine ⟨.inr (.inr ?_), by rw [hl]; omega, by rw [wroteN_size]; exact hsz⟩
      by_cases hx : n = W.secs (W.gbytes R).length
      · exact .inl ⟨hR, rfl, by rw [hl]; exact hx, by rw [hG, if_pos hx]⟩
      · exact .inr ⟨hR, rfl, by rw [hl]; exact hx, by rw [hG, if_neg hx]⟩
end Go.Proofs.YtlgbgedkedddaaaDoor

/- The calls of WalEpochs behind its second loop. -/
namespace Go.Proofs.YtlgbgedkedddaaaDoor
open Go.RowKit
/-- What the cut Commit leaves. -/
def PC9 (w0 : World) (l p : Nat) (v : Value) (hs : List Part) (e : Ending) (w' : World) : Prop := ∃ (z : Int) (Dn : dSt), e = .returned (.int .i64 z) ∧ Hid (Fin (hs.map (·.bs)) z Dn.W.length (W.secs (W.gbytes (hs.map (·.bs))).length) (gone Dn) ∧ Dn.W.length ≤ 9 ∧ Dn.size = 10 ∧ ∃ L OL OD, Wl w0 w' OL OD l p L Dn ∧ Gr (Nw w0 OL OD) w' v hs)
set_option maxRecDepth 100000 in
theorem com9 {w0 w : World} {OL OD : Nat → Prop} {l p n : Nat} {D : dSt} {v : Value} {hs : List Part} (h : Wl w0 w OL OD l p (L9 (hs.map (·.bs))) (D.cut (n : Int))) (hG : Gr (Nw w0 OL OD) w v hs) (hk : (L9 (hs.map (·.bs))).Ok) (hD : Old D 9) (hd : DOk D 110) (hn : n ≤ 100) (hT : Tab w0) : Calls Tryd.prog 10 #[Ptr l] w (PC9 w0 l p v hs) := by
  obtain ⟨f1, f2, f3⟩ := fin_of (n := n) hD hk
  have hcl := cut_left hD (n : Int)
  have hd' : DOk (D.cut (n : Int)) 110 := ⟨hd.waits, hd.steps0, hd.steps1, by rw [hcl]; omega, by rw [hcl]; omega, hd.size⟩
  refine (wl_commit h hk hd' (by show 110 + 9 ≤ 800; decide) (by show ((1 : Nat) : Int) + ((9 : Nat) : Int) ≤ D.size; rw [hD.size]; decide) hT).mono ?_
  rintro e w' ⟨he, q⟩
  obtain ⟨OL', OD', q1, q2, q3⟩ := q.out
  exact ⟨_, _, he, f1, f2, f3, _, OL', OD', q1, hG.call q2 q3⟩
def PP9 (w : World) (n : Nat) (e : Ending) (w' : World) : Prop := ∃ a c, e = .returned (.slice a n c) ∧ Adds w w'
set_option maxRecDepth 100000 in
theorem pend9 {w0 w : World} {OL OD : Nat → Prop} {l p n : Nat} {L : LS} {D : dSt} (h : Wl w0 w OL OD l p L D) (hn : n = D.W.length) (hw : D.W.length ≤ 9) (hs : D.size = 10) : Calls Tryd.prog 24 #[Ptr p] w (PP9 w n) := by
  obtain ⟨hb, wv, hd, _⟩ := h.disk
  refine (pending_any 0 p hb wv D w hd (by omega) (by rw [hs]; decide)).mono ?_
  rintro e w' ⟨v, he, ho, hA⟩
  obtain ⟨a, c, e1, _⟩ := own_cq ho
  have hz : (places D.W).length = n := by rw [hn]; simp [places]
  exact ⟨a, c, by rw [he, e1, hz], hA⟩
set_option maxRecDepth 100000 in
theorem pend9' {w0 w w1 : World} {l p n : Nat} {v : Value} {hs : List Part} {D : dSt} {F : Prop} (h : F ∧ D.W.length ≤ 9 ∧ D.size = 10 ∧ ∃ L OL OD, Wl w0 w OL OD l p L D ∧ Gr (Nw w0 OL OD) w v hs) (hn : n = D.W.length) (hA : Adds w w1) : Calls Tryd.prog 24 #[Ptr p] w1 (PP9 w1 n) := by
  obtain ⟨_, h1, h2, L, OL, OD, h3, _⟩ := h
  exact pend9 (h3.add hA) hn h1 h2
set_option maxRecDepth 100000 in
theorem cut9 {w0 w : World} {OL OD : Nat → Prop} {l p n k : Nat} {L : LS} {D : dSt} {z : Int} (h : Wl w0 w OL OD l p L D) (hd : DOk D k) (hz : z = (n : Int)) : Calls Tryd.prog 18 #[Ptr p, .int .i64 z] w (PWl w0 w OL OD l p L (D.cut (n : Int)) (.int .i64 0)) := by
  rw [hz]; exact wl_cut h hd.size (n : Int) (by omega)
set_option maxRecDepth 100000 in
theorem info4 : ∃ i, Tryd.prog.info? 4 = some i ∧ i.zero = some (.bool false) ∧ i.size = 1 ∧ i.bytes = 1 := by
  have h : (Tryd.prog.info? 4).map (fun i => (i.zero, i.size, i.bytes)) = some (some (.bool false), 1, 1) := by kernel_rfl
  cases hq : Tryd.prog.info? 4 with
  | none => rw [hq] at h; cases h
  | some i =>
    rw [hq] at h
    simp only [Option.map_some, Option.some.injEq, Prod.mk.injEq] at h
    exact ⟨i, rfl, h.1, h.2.1, h.2.2⟩
set_option maxRecDepth 100000 in
theorem append_t4 {w : World} {ops : Array Oper} {rest : List Oper} {o : Oper} {act : Act} {Q : Exit → Act → World → Prop} (hgd : o.guard = none) (s x : Operand)
    (ho : o.op = .call { callee := .builtin .append, args := #[s, x], argTypes := #[46, 46] }) (v : Value) (n : Nat) (xs : List Value) (hs : act.eval s = v) (hown : w.ownsRow 0 4 1 v n xs)
    (g : Nat) (u : Value) (hx : act.eval x = .slice (some ⟨g, 0, none⟩) 1 1) (hc : w.cell? ⟨g, 0, none⟩ = some u) (hu : u.oneCell' = true) (hlen : n ≤ 10000000)
    (h : ∀ v' w', Grew w w' 4 v v' (n + 1) (xs ++ [u]) → wpList Tryd.prog ops Q rest (act.put o.dst v') w') : wpList Tryd.prog ops Q (o :: rest) act w := by
  obtain ⟨i0, hi, hz0, hz1, hz2⟩ := info4
  refine wpList_append_own_at _ hgd s x 46 ho 0 4 i0 (.bool false) 1 1 Tryd.underlying46 hi hz0 hz1 hz2 rfl (by decide) v n xs hs hown ⟨g, 0, none⟩ 1 1 [u] hx rfl ?_ (fun y hy => by rw [List.mem_singleton.1 hy]; exact hu) (by unfold maxLen; omega) (by omega) (Nat.zero_le _) (fun v' w' h1 h2 _ h4 => h v' w' ⟨h1, h2, h4⟩)
  intro j y hj
  match j, hj with
  | 0, hj =>
    obtain rfl : u = y := by simpa using hj
    rw [Addr.add_mid]; exact hc
theorem bools_lit (w : World) : (w.alloc (.cells #[] 4)).ownsRow 0 4 1 (.slice (some ⟨w.heap.size, 0, none⟩) 0 0) 0 [] := World.ownsRow_lit (base := 0) (e := 4) (size := 1) w #[] 0 (Nat.zero_le _) (by decide) rfl
/-- A law's list of what is kept: all. -/
structure Kp (w w' : World) (v : Value) (k : Nat) : Prop where
  rows : w'.ownsRow 0 4 1 v k (List.replicate k (.bool true))
  own : ∀ j, v.ownBlock = some j → w.heap.size ≤ j
  adds : Adds w w'
theorem Kp.lit (w : World) : Kp w (w.alloc (.cells #[] 4)) (.slice (some ⟨w.heap.size, 0, none⟩) 0 0) 0 := ⟨bools_lit w, fun j hj => by cases hj; exact Nat.le_refl _, (Touch.refl _ w).alloc _⟩
set_option maxRecDepth 100000 in
theorem Kp.more {w w1 w2 : World} {v v' : Value} {k : Nat} {o : Obj} (h : Kp w w1 v k) (hG : Grew (w1.alloc o) w2 4 v v' (k + 1) (List.replicate k (.bool true) ++ [.bool true])) : Kp w w2 v' (k + 1) := by
  have s1 := h.adds.size
  refine ⟨by rw [List.replicate_succ']; exact hG.1, hG.lt (by simp; omega) h.own, (h.adds.alloc o).then hG.touch (fun k hk c => by have := h.own k c; omega)⟩
theorem Kp.add {w w1 w2 : World} {v : Value} {k : Nat} (h : Kp w w1 v k) (hA : Adds w1 w2) : Kp w w2 v k := ⟨row_touch h.rows hA (fun _ _ => id), h.own, h.adds.trans hA⟩
set_option maxRecDepth 100000 in
theorem Kp.at {w w' : World} {v : Value} {k : Nat} (h : Kp w w' v k) : ∃ a c, v = .slice a k c ∧ KeptAt w' a (List.replicate k true) := by
  obtain ⟨a, c, e, _, _, h3⟩ := own_cq h.rows
  refine ⟨a, c, e, fun j hj => ?_⟩
  obtain ⟨b, o, ha, _, hc⟩ := h3 j (.bool true) (by rw [List.getElem?_replicate, if_pos (by simpa using hj)])
  exact ⟨b, o, ha, by rw [hc, List.getElem_replicate]⟩
set_option maxRecDepth 100000 in
theorem lose9 {w0 w : World} {OL OD : Nat → Prop} {l p n : Nat} {L : LS} {D : dSt} (h : Wl w0 w OL OD l p L D) (hn : n = D.W.length) (hw : D.W.length ≤ 9) (hs : D.size = 10) {ka : Option Addr} {kc : Nat} (hK : KeptAt w ka (List.replicate n true)) : Calls Tryd.prog 20 #[Ptr p, .agg #[.slice ka n kc, .int .i64 (-1), .int .i64 0]] w (PLo w (D.lost (List.replicate D.W.length true) (-1) 0)) := by
  subst hn
  have q := wl_lose h (by omega) (by rw [hs]; decide) ka kc (List.replicate D.W.length true) (-1) 0 hK (by rw [List.length_replicate]; omega) (fun c => by omega)
  rw [List.length_replicate] at q
  exact q
theorem open9 {w : World} {OD : Nat → Prop} {p : Nat} {D : dSt} (hD : IsDO w OD p (D.lost (List.replicate D.W.length true) (-1) 0)) (hO : ∀ k, OD k → k < w.heap.size) (hT : Tab w) (hs : D.size = 10) : Calls Tryd.prog 7 #[Ptr p, .int .i64 1, .int .i64 9, .int .i64 3] w (PLog w p ⟨1, 9, 3, true, gone D, []⟩) := lo_open hD hO hT rfl hs rfl rfl 3 (by decide) (by decide)
set_option maxRecDepth 100000 in
theorem none9 {w : World} {O : Nat → Prop} {l p : Nat} {L : LS} (h : IsLog w O l p L) (hG : L.G = []) : Calls Tryd.prog 12 #[Ptr l] w (PNone w) := by
  refine (lgroups_any h (by rw [hG]; intro g hg; cases hg) (by rw [hG]; exact Nat.zero_le _)).mono ?_
  rintro e w' ⟨v, t, he, q⟩
  obtain ⟨q1, q2, q3⟩ := q.out
  rw [hG] at q2
  obtain rfl : t = [] := by cases t with
    | nil => rfl
    | cons => cases q2
  obtain ⟨a, c, e1, _⟩ := own_cq q1.rows
  exact ⟨a, c, by rw [he, e1]; rfl, q3⟩
/-- One group. -/
def POne (w : World) (R : List (List UInt8)) (e : Ending) (w' : World) : Prop := ∃ a c x, e = .returned (.slice a 1 c) ∧ Hid (CQ w' (fun k => w.heap.size ≤ k) a [GV x] ∧ GQ w' (fun k => w.heap.size ≤ k) x ∧ x.bs = R ∧ Adds w w')
set_option maxRecDepth 100000 in
theorem one9 {w : World} {O : Nat → Prop} {l p : Nat} {L : LS} {R : List (List UInt8)} (h : IsLog w O l p L) (hG : L.G = [W.gbytes R]) (hk : (L9 R).Ok) (hR : R ≠ []) : Calls Tryd.prog 12 #[Ptr l] w (POne w R) := by
  obtain ⟨_, hs, hr⟩ := good_of hk hR
  have hl := secs_len hs
  refine (lgroups_any h (by rw [hG]; intro g hg; obtain rfl := List.mem_singleton.1 hg; omega) (by rw [hG]; show 1 ≤ 10000; decide)).mono ?_
  rintro e w' ⟨v, t, he, q⟩
  obtain ⟨q1, q2, q3⟩ := q.out
  rw [hG, List.map_cons, List.map_nil, hr] at q2
  obtain ⟨x, rfl⟩ : ∃ x, t = [x] := by
    match t, q2 with
    | [x], _ => exact ⟨x, rfl⟩
  obtain ⟨a, c, e1, _, _, h3⟩ := own_cq q1.rows
  refine ⟨a, c, x, by rw [he, e1]; rfl, h3.mono (fun k _ q => q1.own k q), (q1.data x (List.mem_singleton.2 rfl)).mono (fun _ _ q => q.1), ?_, q3⟩
  simpa using q2
set_option maxRecDepth 100000 in
theorem same9 {w : World} {Q1 Q2 : Nat → Prop} {a : Option Addr} {c m b : Nat} {x g : Pl} (h1 : CQ w Q1 a [GV x]) (g1 : GQ w Q1 x) (h2 : w.cell? ⟨b, 0, none⟩ = some (.slice g.a m g.cap)) (hm : m = g.l.length) (g2 : GQ w Q2 g) (hl : g.l.length ≤ 10) (he : x.bs = g.bs) : Calls Tryd.prog 21 #[.slice a 1 c, .slice (some ⟨b, 0, none⟩) 1 1] w (Adding (.bool true) w) := by
  have hx : x.l.length = g.l.length := by have := congrArg List.length he; simpa [Pl.bs] using this
  have q := same8 (Q1 := Q1) (Q2 := fun _ => True) a (some ⟨b, 0, none⟩) c 1 1 1 [x] [g] w rfl rfl h1 (fun y hy => by obtain rfl := List.mem_singleton.1 hy; exact g1) (fun j u hj => ?_) (fun y hy => by obtain rfl := List.mem_singleton.1 hy; exact g2.mono (fun _ _ _ => trivial)) ⟨by decide, by decide⟩ ⟨fun y hy => by obtain rfl := List.mem_singleton.1 hy; omega, fun y hy => by obtain rfl := List.mem_singleton.1 hy; omega⟩
  · rw [show decide (List.map Pl.bs [x] = List.map Pl.bs [g]) = true by simp [he]] at q
    exact q
  · match j, hj with
    | 0, hj =>
      obtain rfl : GV g = u := by simpa using hj
      exact ⟨b, 0, rfl, trivial, by rw [h2, hm]⟩
set_option maxRecDepth 100000 in
theorem l9_texts {R : List (List UInt8)} (h : (L9 R).Ok) : (W.texts R).length ≤ 2100 := by
  by_cases hR : R = []
  · subst hR; exact Nat.zero_le _
  · have h2 := secs_len (good_of h hR).2.1
    have h3 := texts_le R
    omega
set_option maxRecDepth 100000 in
theorem sec9 {Q : Nat → Prop} {w : World} {g : Pl} {m sc : Nat} (hG : GQ w Q g) (hm : m = g.l.length) (hk : (L9 g.bs).Ok) (hsc : sc = W.secs (W.gbytes g.bs).length) : Calls Tryd.prog 22 #[.slice g.a m g.cap] w (Adding (.int .i64 (sc : Int)) w) := by
  have q := sectors8_any g m hm.symm w hG (by have := l9_texts hk; omega)
  rw [← hsc] at q
  exact q
end Go.Proofs.YtlgbgedkedddaaaDoor
