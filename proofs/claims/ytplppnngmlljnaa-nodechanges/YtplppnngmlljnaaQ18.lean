/- Texts put together: NFMath, NRTake, NRFind, NRChange, NRTold, NRIns, NFinds. -/
import Derived.Test.YtplppnngmlljnaaQ15
import Derived.Test.YtplppnngmlljnaaQ16
import Derived.Test.YtplppnngmlljnaaQ17
import Derived.Laws.BitsLemmas
import Derived.Test.YtplppnngmlljnaaQ13
/- A key's place: a cell that is put there, found, and taken out again. -/
namespace Go.Proofs.Ytplppnngmlljnaa
open Go.RowKit
namespace N
theorem lb_spec (ks : List (List UInt8)) (key : List UInt8) : (∀ t, t < lb ks key → lt (ks.getD t []) key = true) ∧ (lb ks key < ks.length → lt (ks.getD (lb ks key) []) key = false) := by
  unfold lb
  induction ks with
  | nil => exact ⟨fun t h => absurd h (by simp), fun h => absurd h (by simp)⟩
  | cons k l ih =>
    cases hk : lt k key with
    | false =>
      rw [List.takeWhile_cons, hk]
      exact ⟨fun t h => absurd h (by simp), fun _ => hk⟩
    | true =>
      rw [List.takeWhile_cons, if_pos hk, List.length_cons]
      refine ⟨fun t h => ?_, fun h => ?_⟩
      · cases t with
        | zero => exact hk
        | succ t => exact ih.1 t (by omega)
      · exact ih.2 (by simpa using h)
/-- An inner node's place is never the first. -/
theorem lb_pos {n : Nd} (h : right n = true) (hl : n.leaf = false) {key : List UInt8} (ha : isAt n.keys key = false) : 0 < lb n.keys key := by
  rcases (right_parts h).2 with ⟨q0, _⟩ | ⟨_, _, _, _, q4, q5⟩
  · rw [hl] at q0; cases q0
  · rcases Nat.eq_zero_or_pos (lb n.keys key) with c | c
    · have s2 := (lb_spec n.keys key).2 (by omega)
      rw [isAt_eq, c, decide_eq_true q4, q5, Bool.true_and] at ha
      rw [c, q5] at s2
      cases key with
      | nil => exact absurd ha (by decide)
      | cons b y => cases s2
    · exact c
/-- The node with a cell more. -/
def more (n : Nd) (key val : List UInt8) : Nd := change n (lb n.keys key) (lb n.keys key) ⟨false, [key], [val], [7]⟩
end N
end Go.Proofs.Ytplppnngmlljnaa

/- The reference: what a node takes, its page, where a key stands. -/
namespace Go.Proofs.Ytplppnngmlljnaa
open Go.RowKit

theorem PTold.from {w w1 w' : World} {cs : List UInt8} {er : Nat} {e : Ending} (h : PTold w1 cs er e w') (hA : Adds w w1) : PTold w cs er e w' := by
  obtain ⟨a, cap, rfl, H⟩ := h
  exact ⟨a, cap, rfl, H.out.1, H.out.2.1, ⟨H.out.2.2.1.1, fun b o e => Nat.le_trans hA.size (H.out.2.2.1.2 b o e)⟩, hA.trans H.out.2.2.2⟩
end Go.Proofs.Ytplppnngmlljnaa

/- The reference: where a key stands. -/
namespace Go.Proofs.Ytplppnngmlljnaa
open Go.RowKit

end Go.Proofs.Ytplppnngmlljnaa

/- The reference: a node with other cells in the place of some. -/
namespace Go.Proofs.Ytplppnngmlljnaa
open Go.RowKit

/-- An append of a list to a row of one's own. -/
theorem wp_append_list {o : Oper} {act : Act} {w0 w : World} {K : Act → World → Prop} {QQ : Exit → Act → World → Prop} {Q : Nat → Prop} (t e : TypeId) (i : TypeInfo) (z : Value) (by_ : Nat) (ht : Try.prog.underlying t = some (.slice e)) (hi : Try.prog.info? e = some i) (hz : i.zero = some z) (hs : i.size = 1) (hby : i.bytes = by_) (hz1 : z.cells.size = 1) (s x : Operand)
    (hop : o.op = Op.call { callee := Callee.builtin Builtin.append, args := #[s, x], argTypes := #[t, t] }) (B : Nat) (v : Value) (n : Nat) (xs : List Value) (hsv : act.eval s = v) (hown : w.ownsRow B e 1 v n xs) (h0 : Adds w0 w) (hB : B = w0.heap.size)
    (a : Option Addr) (m cap : Nat) (news : List Value) (hx : act.eval x = .slice a m cap) (hm : news.length = m) (hA : CQ w Q a news) (hcap : a = none → cap = 0) (h1 : ∀ u ∈ news, u.oneCell' = true) (hm9 : (n + m) * by_ ≤ 140737488355328) (hmx : n + m ≤ maxLen)
    (hK : ∀ a' c' w', w'.ownsRow B e 1 (.slice a' (n + m) c') (n + m) (xs ++ news) → Adds w0 w' → K (act.put o.dst (.slice a' (n + m) c')) w') : Oper.wp Try.prog o act w K QQ := by
  cases a with
  | none =>
    obtain rfl := hcap rfl
    obtain rfl : news = [] := by
      cases news with
      | nil => rfl
      | cons u l => obtain ⟨b, o', e, _⟩ := hA 0 u rfl; cases e
    obtain rfl : m = 0 := by rw [← hm]; rfl
    have hrun := run_append_owned_none (P := Try.prog) (w := w) B t o.type e i 1 ht hi v n xs hown
    obtain ⟨a', c', rfl, _⟩ := own_cq (n := n) hown
    unfold Oper.wp
    simp [execOp, hop, resolve, invoke, builtin, hsv, hx, hrun, Result.andThen]
    exact hK a' c' w (by simpa using hown) h0
  | some ad =>
    obtain ⟨v', w', hr, h2, h3, _, _⟩ := run_append_own_at (P := Try.prog) w B t o.type e i z 1 by_ ht hi hz hs hby hz1 (by decide) v n xs hown ad m cap news (by omega) (by
      intro j y hj
      obtain ⟨b, o', e, _, hc⟩ := hA j y hj
      obtain rfl : ad = ⟨b, o', none⟩ := by simpa using e
      rw [Addr.add_mid]; exact hc) h1 hmx hm9 (by rw [hB]; exact h0.size)
    obtain ⟨a', c', rfl, _⟩ := own_cq (n := n + m) h2
    unfold Oper.wp
    simp [execOp, hop, resolve, invoke, builtin, hsv, hx, hr, Result.andThen]
    exact hK a' c' w' h2 (h0.grown h3 (fun k hk hlt => by have := (row_low hown hk).1; omega))
/-- A node is the result; its memory may be shared. -/
def PQnode (w : World) (Q : Nat → Prop) (n : N.Nd) (e : Ending) (w' : World) : Prop := ∃ z : NM, e = .returned z.val ∧ Hid (z.nd = n ∧ NQ w' Q z ∧ Adds w w')
theorem ropen (w : World) (bx bz : Array Value) : ∃ N0 N1 N2 w3, N0 = w.heap.size ∧ N1 = N0 + 1 ∧ N2 = N1 + 1 ∧ w3 = ((w.alloc (.cells bx 26)).alloc (.cells bz 26)).alloc RZ ∧ Hid (Adds w w3) ∧ Hid (w3.heap[N0]? = some (.cells bx 26)) ∧ Hid (w3.heap[N1]? = some (.cells bz 26)) ∧ Hid (w3.heap[N2]? = some RZ) ∧ Hid (w.heap.size ≤ N0) := by
  have e1 : (w.alloc (.cells bx 26)).heap.size = w.heap.size + 1 := by simp
  have e2 : ((w.alloc (.cells bx 26)).alloc (.cells bz 26)).heap.size = w.heap.size + 1 + 1 := by simp
  refine ⟨_, _, _, _, rfl, rfl, rfl, rfl, (((Touch.refl _ w).alloc _).alloc _).alloc _, box_adds (heap_alloc_new w _) (((Touch.refl _ _).alloc _).alloc _), ?_, ?_, Nat.le_refl _⟩
  · rw [← e1]; exact box_adds (heap_alloc_new _ _) ((Touch.refl _ _).alloc _)
  · rw [← e2]; exact heap_alloc_new _ _
/-- A row is stored into a box. -/
theorem box_put {w0 W : World} {N3 fld : Nat} {cs : Array Value} {v : Value} (hA : Adds w0 W) (hb : W.heap[N3]? = some (.cells cs 26 (0, 0))) : (W.setCell ⟨N3, fld, none⟩ v).heap[N3]? = some (.cells (cs.setIfInBounds fld v) 26 (0, 0)) ∧ Touch (fun j => j = N3) w0 (W.setCell ⟨N3, fld, none⟩ v) := by
  have hT : Touch (fun j => j = N3) W (W.setCell ⟨N3, fld, none⟩ v) := Touch.setCell (T := fun j => j = N3) (Touch.refl _ W) (p := ⟨N3, fld, none⟩) (fun _ => rfl) _
  exact ⟨heap_setCell_same W N3 fld cs 26 v hb, (hA.mono (fun _ _ c => c.elim)).trans hT⟩
theorem sufCQ {w : World} {Q : Nat → Prop} {a : Option Addr} {xs : List Value} (h : CQ w Q a xs) (cap n : Nat) (hc : xs.length ≤ cap) : CQ w Q (sufA a cap n) (xs.drop n) := h.suf cap n hc
set_option maxRecDepth 100000 in
set_option maxHeartbeats 16000000 in
theorem rchange_any (x y : NM) (i out : Nat) (w : World) {Q Q' : Nat → Prop} (hx : NQ w Q x) (sx : NS x) (hy : NQ w Q' y) (sy : NS y) (hij : i + out ≤ x.ks.length) (hlf : x.leaf = true → x.v.l.length = x.ks.length) (hin : x.leaf = false → x.is.length = x.ks.length) :
    Calls Try.prog 57 #[x.val, .int .i64 (i : Int), .int .i64 (out : Int), y.val] w (PQnode w (fun k => Q k ∨ Q' k ∨ w.heap.size ≤ k) (N.change x.nd i (i + out) y.nd)) := by
  obtain ⟨leaf, ka, kc, ks, g, ia, ic, zs⟩ := x
  obtain ⟨yl, yka, ykc, yks, yg, yia, yic, yzs⟩ := y
  have HX := hid hx
  have HY := hid hy
  have HSx := hid sx
  have HSy := hid sy
  obtain ⟨j, hj⟩ : ∃ j, j = i + out := ⟨_, rfl⟩
  rw [← hj]
  obtain ⟨kn, hkn⟩ : ∃ n, n = ks.length := ⟨_, rfl⟩
  obtain ⟨vn, hvn⟩ : ∃ n, n = g.l.length := ⟨_, rfl⟩
  obtain ⟨zn, hzn⟩ : ∃ n, n = zs.length := ⟨_, rfl⟩
  obtain ⟨ykn, hykn⟩ : ∃ n, n = yks.length := ⟨_, rfl⟩
  obtain ⟨yvn, hyvn⟩ : ∃ n, n = yg.l.length := ⟨_, rfl⟩
  obtain ⟨yzn, hyzn⟩ : ∃ n, n = yzs.length := ⟨_, rfl⟩
  have hk9 : kn ≤ 1000 := by rw [hkn]; exact sx.k
  have hv9 : vn ≤ 1000 := by rw [hvn]; exact sx.v
  have hz9 : zn ≤ 1000 := by rw [hzn]; exact sx.i
  have hyk9 : ykn ≤ 1000 := by rw [hykn]; exact sy.k
  have hyv9 : yvn ≤ 1000 := by rw [hyvn]; exact sy.v
  have hyz9 : yzn ≤ 1000 := by rw [hyzn]; exact sy.i
  have hjk : j ≤ kn := by rw [hj, hkn]; exact hij
  have hik : i ≤ kn := by omega
  have HLs := hid (show kn = ks.length ∧ vn = g.l.length ∧ zn = zs.length ∧ ykn = yks.length ∧ yvn = yg.l.length ∧ yzn = yzs.length from ⟨hkn, hvn, hzn, hykn, hyvn, hyzn⟩)
  have HLf := hid (show (leaf = true → vn = kn) ∧ (leaf = false → zn = kn) by rw [hkn, hvn, hzn]; exact ⟨hlf, hin⟩)
  have hij' : (i : Int) + (out : Int) = (j : Int) := by omega
  have HIJ := hid hij'
  have hout9 : out ≤ 1000 := by omega
  obtain ⟨N0, N1, N2, w3, hN0, hN1, hN2, hw3, HA3, HB0, HB1, HB2, HL⟩ := ropen w #[.bool leaf, .slice ka kn kc, .slice g.a vn g.cap, .slice ia zn ic] #[.bool yl, .slice yka ykn ykc, .slice yg.a yvn yg.cap, .slice yia yzn yic]
  have HNw := hid (show w3.heap.size = N2 + 1 ∧ N1 = N0 + 1 ∧ N2 = N1 + 1 by rw [hw3, hN2, hN1, hN0]; simp)
  obtain ⟨nd, hnd⟩ : ∃ nd, nd = N.change (NM.nd ⟨leaf, ka, kc, ks, g, ia, ic, zs⟩) i j (NM.nd ⟨yl, yka, ykc, yks, yg, yia, yic, yzs⟩) := ⟨_, rfl⟩
  rw [← hnd]
  have HNd := hid (show nd = ⟨leaf, ks.take i ++ (yks ++ ks.drop j), if leaf then (g.l.take i ++ (yg.l ++ g.l.drop j)).map (·.bs) else [], if leaf then [] else zs.take i ++ (yzs ++ zs.drop j)⟩ by
    rw [hnd]
    cases leaf <;> simp [N.change, NM.nd, Pl.bs, List.map_take, List.map_drop])
  show Calls Try.prog 57 #[.agg #[.bool leaf, .slice ka ks.length kc, .slice g.a g.l.length g.cap, .slice ia zs.length ic], .int .i64 (i : Int), .int .i64 (out : Int), .agg #[.bool yl, .slice yka yks.length ykc, .slice yg.a yg.l.length yg.cap, .slice yia yzs.length yic]] w _
  rw [← hkn, ← hvn, ← hzn, ← hykn, ← hyvn, ← hyzn]
  clear hx hy sx sy hkn hvn hzn hykn hyvn hyzn hlf hin hij hj hnd hij'
  go_enter Try.func57, Try.ntmps57
  go_upto_region 1 with fail
  rw [← hw3, ← hN0, ← hN1, ← hN2]
  clear hw3 hN0 hN1 hN2
  obtain ⟨x0, _, _, _⟩ := box_cells HB0.out
  go_upto_region 2 with (refine wpList_store_row rfl 26 _ _ rfl w3.heap.size #[.bool leaf, .slice .none 0 0, .slice .none 0 0, .slice .none 0 0] rfl rfl 26 _ (heap_alloc_new w3 RZ) (infoR4 _ _ _ _) rfl (one4 _ _ _ _ _ _ _ _ _ _) ?_)
  clear x0
  obtain ⟨N3, hN3⟩ : ∃ N3, N3 = w3.heap.size := ⟨_, rfl⟩
  obtain ⟨w4, hw4⟩ : ∃ w4, w4 = (w3.alloc RZ).setRow w3.heap.size #[.bool leaf, .slice .none 0 0, .slice .none 0 0, .slice .none 0 0] := ⟨_, rfl⟩
  have HB3 := hid (show w4.heap[N3]? = some (.cells #[.bool leaf, .slice .none 0 0, .slice .none 0 0, .slice .none 0 0] 26 (0, 0)) by rw [hw4, hN3]; exact setRow_heap (w3.alloc RZ) w3.heap.size _ _ 26 _ (heap_alloc_new w3 RZ))
  have HA34 := hid (show Adds w3 w4 by rw [hw4]; exact ((Touch.refl (fun _ => False) w3).alloc RZ).then (touch_row (w3.alloc RZ) w3.heap.size _) (fun j hj e => by omega))
  have HNe := hid (show N0 ≠ N3 ∧ N1 ≠ N3 ∧ N2 ≠ N3 ∧ w.heap.size ≤ N3 ∧ w.heap.size ≤ N2 by have := HNw.out; have := HL.out; omega)
  rw [← hw4, ← hN3]
  clear hw4 hN3
  have A4 := hid (HA3.out.trans HA34.out)
  have P4 := hid (box_adds HB0.out HA34.out)
  have Q4 := hid (box_adds HB1.out HA34.out)
  have R4 := hid (box_adds HB2.out HA34.out)
  cases leaf with
  | true =>
    have B4 := hid HB3.out
    have HR4 := hid (show i ≤ kn ∧ j ≤ kn ∧ kn ≤ kc ∧ kn ≤ 1000 ∧ ykn ≤ 1000 ∧ i ≤ 1000 ∧ j ≤ 1000 ∧ out ≤ 1000 from ⟨hik, hjk, by have := HX.out.kr; rw [HLs.out.1]; exact this, hk9, hyk9, by omega, by omega, hout9⟩)
    refine Pe_begin (S := fun W' : World => Adds w4 W') (X := 17) (by kernel_rfl) ?_
    have hS : (fun W' : World => Adds w4 W') w4.drew := adds_dr w4
    refine Pe_put (i := 1) 14 (v := .pointer (some ⟨N0, 1, none⟩)) rfl rfl (by kernel_rfl) (by kernel_rfl) (by kernel_rfl) (by kernel_rfl) (fun _ _ _ h => h) (Or.inl ⟨by rfl, fun w' hw' => ?_⟩) hS ?_
    · go_simp
    simp only [Act.put, List.setIfInBounds_toArray, List.set_cons_zero, List.set_cons_succ]
    refine Pe_put (i := 2) 15 (v := .slice ka kn kc) rfl rfl (by kernel_rfl) (by kernel_rfl) (by kernel_rfl) (by kernel_rfl) (fun _ _ _ h => h) (Or.inl ⟨by rfl, fun w' hw' => ?_⟩) hS ?_
    · (have c := cellOf (box_adds P4.out hw') 1; clear hw'; go_simp)
    simp only [Act.put, List.setIfInBounds_toArray, List.set_cons_zero, List.set_cons_succ]
    refine Pe_put (i := 3) 16 (v := .int .i64 (i : Int)) rfl rfl (by kernel_rfl) (by kernel_rfl) (by kernel_rfl) (by kernel_rfl) (fun _ _ _ h => h) (Or.inl ⟨by rfl, fun w' hw' => ?_⟩) hS ?_
    · go_simp
    simp only [Act.put, List.setIfInBounds_toArray, List.set_cons_zero, List.set_cons_succ]
    refine Pe_put (i := 4) 17 (v := .slice ka i kc) rfl rfl (by kernel_rfl) (by kernel_rfl) (by kernel_rfl) (by kernel_rfl) (fun _ _ _ h => h) (Or.inl ⟨by rfl, fun w' hw' => ?_⟩) hS ?_
    · (have hs1 := run_preVS ka kn kc i (by have := HR4.out; omega) w'; clear hw'; go_simp)
    simp only [Act.put, List.setIfInBounds_toArray, List.set_cons_zero, List.set_cons_succ]
    refine Pe_put (i := 6) 19 (v := .pointer (some ⟨N1, 1, none⟩)) rfl rfl (by kernel_rfl) (by kernel_rfl) (by kernel_rfl) (by kernel_rfl) (fun _ _ _ h => h) (Or.inl ⟨by rfl, fun w' hw' => ?_⟩) hS ?_
    · go_simp
    simp only [Act.put, List.setIfInBounds_toArray, List.set_cons_zero, List.set_cons_succ]
    refine Pe_put (i := 7) 20 (v := .slice yka ykn ykc) rfl rfl (by kernel_rfl) (by kernel_rfl) (by kernel_rfl) (by kernel_rfl) (fun _ _ _ h => h) (Or.inl ⟨by rfl, fun w' hw' => ?_⟩) hS ?_
    · (have c := cellOf (box_adds Q4.out hw') 1; clear hw'; go_simp)
    simp only [Act.put, List.setIfInBounds_toArray, List.set_cons_zero, List.set_cons_succ]
    refine Pe_put (i := 9) 22 (v := .pointer (some ⟨N0, 1, none⟩)) rfl rfl (by kernel_rfl) (by kernel_rfl) (by kernel_rfl) (by kernel_rfl) (fun _ _ _ h => h) (Or.inl ⟨by rfl, fun w' hw' => ?_⟩) hS ?_
    · go_simp
    simp only [Act.put, List.setIfInBounds_toArray, List.set_cons_zero, List.set_cons_succ]
    refine Pe_put (i := 10) 23 (v := .slice ka kn kc) rfl rfl (by kernel_rfl) (by kernel_rfl) (by kernel_rfl) (by kernel_rfl) (fun _ _ _ h => h) (Or.inl ⟨by rfl, fun w' hw' => ?_⟩) hS ?_
    · (have c := cellOf (box_adds P4.out hw') 1; clear hw'; go_simp)
    simp only [Act.put, List.setIfInBounds_toArray, List.set_cons_zero, List.set_cons_succ]
    refine Pe_put (i := 11) 24 (v := .int .i64 (i : Int)) rfl rfl (by kernel_rfl) (by kernel_rfl) (by kernel_rfl) (by kernel_rfl) (fun _ _ _ h => h) (Or.inl ⟨by rfl, fun w' hw' => ?_⟩) hS ?_
    · go_simp
    simp only [Act.put, List.setIfInBounds_toArray, List.set_cons_zero, List.set_cons_succ]
    refine Pe_put (i := 12) 25 (v := .int .i64 (out : Int)) rfl rfl (by kernel_rfl) (by kernel_rfl) (by kernel_rfl) (by kernel_rfl) (fun _ _ _ h => h) (Or.inl ⟨by rfl, fun w' hw' => ?_⟩) hS ?_
    · go_simp
    simp only [Act.put, List.setIfInBounds_toArray, List.set_cons_zero, List.set_cons_succ]
    refine Pe_put (i := 13) 26 (v := .int .i64 (j : Int)) rfl rfl (by kernel_rfl) (by kernel_rfl) (by kernel_rfl) (by kernel_rfl) (fun _ _ _ h => h) (Or.inl ⟨by rfl, fun w' hw' => ?_⟩) hS ?_
    · (have hij' := HIJ.out; have hwr : IntKind.i64.wrap (j : Int) = (j : Int) := by rw [IntKind.wrap_i64]; omega); go_simp
    simp only [Act.put, List.setIfInBounds_toArray, List.set_cons_zero, List.set_cons_succ]
    refine Pe_put (i := 14) 27 (v := .slice (sufA ka kc j) (kn - j) (kc - j)) rfl rfl (by kernel_rfl) (by kernel_rfl) (by kernel_rfl) (by kernel_rfl) (fun _ _ _ h => h) (Or.inl ⟨by rfl, fun w' hw' => ?_⟩) hS ?_
    · (have hs1 := run_sufVS ka kn kc j (by have := HR4.out; omega) w'; clear hw'; go_simp)
    simp only [Act.put, List.setIfInBounds_toArray, List.set_cons_zero, List.set_cons_succ]
    refine Pe_all (rs := [0]) (by kernel_rfl) (by simp) (fun jj hj => ?_)
    obtain rfl := List.mem_singleton.1 hj
    have hA1 : (fun W' : World => Adds w4 W') (w4.drew.alloc (.cells #[] 9)) := Touch.alloc hS _
    refine EO_value 13 (v := .slice (some ⟨w4.drew.heap.size, 0, none⟩) 0 0) (w' := w4.drew.alloc (.cells #[] 9)) rfl rfl (by rfl) (by go_simp) hA1 ?_
    simp only [Act.put, List.setIfInBounds_toArray, List.set_cons_zero, List.set_cons_succ]
    obtain ⟨i4, hi4, hz4, hs4, hb4⟩ := infoES
    refine Pe_do (i := 5) (some 18) (by kernel_rfl) rfl rfl rfl (fun K' hK => ?_)
    refine wp_append_lit 22 9 i4 (.string ⟨#[]⟩) 16 Try.underlying22 hi4 hz4 hs4 hb4 rfl (.tmp 13) (.tmp 17) rfl w4.heap.size w4.drew.heap.size (adds_dr w4).size (heap_alloc_new _ _) rfl ka i kc ((Ss ks).take i) rfl (by rw [List.length_take, len_Ss, ← HLs.out.1]; have := HR4.out; omega) (((HX.out.keys).adds (A4.out.trans hA1)).pre i) HX.out.kn (fun u hu => one_Ss ks u (List.mem_of_mem_take hu)) (by have := HR4.out; omega) (by decide) ?_
    intro a14 c14 w14 r1 hA1b
    have hS1 : (fun W' : World => Adds w4 W') w14 := Touch.trans hA1 hA1b
    refine hK _ _ (fun _ => hS1) ?_
    simp only [Act.put, List.setIfInBounds_toArray, List.set_cons_zero, List.set_cons_succ]
    clear hS hA1 hA1b hK; have hS := hS1; clear hS1
    refine Pe_do (i := 8) (some 21) (by kernel_rfl) rfl rfl rfl (fun K' hK => ?_)
    refine wp_append_list (w0 := w4) 22 9 i4 (.string ⟨#[]⟩) 16 Try.underlying22 hi4 hz4 hs4 hb4 rfl (.tmp 18) (.tmp 20) rfl w4.heap.size (.slice a14 i c14) i ((Ss ks).take i) rfl r1 hS rfl yka ykn ykc (Ss yks) rfl (by rw [len_Ss, ← HLs.out.2.2.2.1]) ((HY.out.keys).adds (A4.out.trans hS)) HY.out.kn (one_Ss yks) (by have := HR4.out; omega) (by have := HR4.out; unfold maxLen; omega) ?_
    intro a24 c24 w24 r2 hS1
    refine hK _ _ (fun _ => hS1) ?_
    simp only [Act.put, List.setIfInBounds_toArray, List.set_cons_zero, List.set_cons_succ]
    clear hS hK r1; have hS := hS1; clear hS1
    refine Pe_do (i := 15) (some 28) (by kernel_rfl) rfl rfl rfl (fun K' hK => ?_)
    refine wp_append_list (w0 := w4) 22 9 i4 (.string ⟨#[]⟩) 16 Try.underlying22 hi4 hz4 hs4 hb4 rfl (.tmp 21) (.tmp 27) rfl w4.heap.size (.slice a24 (i + ykn) c24) (i + ykn) ((Ss ks).take i ++ (Ss yks)) rfl r2 hS rfl (sufA ka kc j) (kn - j) (kc - j) ((Ss ks).drop j) rfl (by rw [List.length_drop, len_Ss, ← HLs.out.1]) (sufCQ ((HX.out.keys).adds (A4.out.trans hS)) kc j (by rw [len_Ss, ← HLs.out.1]; have := HR4.out; omega)) (fun e => sufA_none HX.out.kn e) (fun u hu => one_Ss ks u (List.mem_of_mem_drop hu)) (by have := HR4.out; omega) (by have := HR4.out; unfold maxLen; omega) ?_
    intro a34 c34 w34 r3 hS1
    refine hK _ _ (fun _ => hS1) ?_
    simp only [Act.put, List.setIfInBounds_toArray, List.set_cons_zero, List.set_cons_succ]
    clear hS hK r2 hi4 hz4 hs4 hb4; have hS := hS1; clear hS1
    refine Pe_put (i := 16) 29 (v := .pointer (some ⟨N3, 1, none⟩)) rfl rfl (by kernel_rfl) (by kernel_rfl) (by kernel_rfl) (by kernel_rfl) (fun _ _ _ h => h) (Or.inl ⟨by rfl, fun w' hw' => ?_⟩) hS ?_
    · go_simp
    simp only [Act.put, List.setIfInBounds_toArray, List.set_cons_zero, List.set_cons_succ]
    have hbx := box_adds B4.out hS
    have HBx4 := hid hbx
    have HS4 := hid hS
    have HRw4 := hid r3
    have q1 := box_free hbx 1
    have q3 := cellOf hbx 1
    clear hbx r3
    refine Pe_do (i := 17) none (by kernel_rfl) rfl rfl rfl (fun K' hK => ?_)
    clear hS
    go_simp
    refine hK undef _ (fun h => absurd rfl h) (Pe_done (by kernel_rfl) ?_ _)
    clear q1 q3 hK
    simp only [Act.put]
    obtain ⟨w5, hw5⟩ : ∃ W, W = w34.setCell ⟨N3, 1, none⟩ (.slice a34 (i + ykn + (kn - j)) c34) := ⟨_, rfl⟩
    have HT5 := hid (show w5.heap[N3]? = some (.cells #[.bool true, .slice a34 (i + ykn + (kn - j)) c34, .slice .none 0 0, .slice .none 0 0] 26 (0, 0)) ∧ Touch (fun j => j = N3) w4 w5 by rw [hw5]; exact box_put HS4.out HBx4.out)
    have HW5 := hid (show Touch (fun j => j = N3) w34 w5 by rw [hw5]; exact (box_put (Touch.refl _ _) HBx4.out).2)
    rw [← hw5]
    clear hw5
    have A5 := hid (show Adds w w5 from A4.out.then HT5.out.2 (fun j hj e => by have := HNe.out; omega))
    have B5 := hid HT5.out.1
    have P5 := hid (show w5.heap[N0]? = some (.cells #[.bool true, .slice ka kn kc, .slice g.a vn g.cap, .slice ia zn ic] 26) by rw [HT5.out.2.block N0 (Array.getElem?_eq_some_iff.1 P4.out).1 HNe.out.1]; exact P4.out)
    have Q5 := hid (show w5.heap[N1]? = some (.cells #[.bool yl, .slice yka ykn ykc, .slice yg.a yvn yg.cap, .slice yia yzn yic] 26) by rw [HT5.out.2.block N1 (Array.getElem?_eq_some_iff.1 Q4.out).1 HNe.out.2.1]; exact Q4.out)
    have R5 := hid (show w5.heap[N2]? = some RZ by rw [HT5.out.2.block N2 (Array.getElem?_eq_some_iff.1 R4.out).1 HNe.out.2.2.1]; exact R4.out)
    obtain ⟨x0, _, _, _⟩ := box_cells P5.out
    go_upto_region 4 with fail
    clear x0
    have HK5 := hid (show w5.ownsRow w4.heap.size 9 1 (.slice a34 (i + ykn + (kn - j)) c34) (i + ykn + (kn - j)) (Ss (ks.take i ++ (yks ++ ks.drop j))) by
      have r := row_touch HRw4.out HW5.out (fun j hj c => row_ne HRw4.out HBx4.out (by decide) hj c)
      rw [show Ss (ks.take i ++ (yks ++ ks.drop j)) = (Ss ks).take i ++ Ss yks ++ (Ss ks).drop j by simp [Ss, List.map_take, List.map_drop]]
      exact r)
    have HR5 := hid (show i ≤ vn ∧ j ≤ vn ∧ vn ≤ g.cap ∧ vn ≤ 1000 ∧ yvn ≤ 1000 ∧ i ≤ 1000 ∧ j ≤ 1000 ∧ out ≤ 1000 from ⟨by rw [HLf.out.1 rfl]; exact hik, by rw [HLf.out.1 rfl]; exact hjk, by have := HX.out.vr; rw [HLs.out.2.1]; exact this, hv9, hyv9, by omega, by omega, hout9⟩)
    refine Pe_begin (S := fun W' : World => Adds w5 W') (X := 17) (by kernel_rfl) ?_
    have hS : (fun W' : World => Adds w5 W') w5.drew := adds_dr w5
    refine Pe_put (i := 1) 33 (v := .pointer (some ⟨N0, 2, none⟩)) rfl rfl (by kernel_rfl) (by kernel_rfl) (by kernel_rfl) (by kernel_rfl) (fun _ _ _ h => h) (Or.inl ⟨by rfl, fun w' hw' => ?_⟩) hS ?_
    · go_simp
    simp only [Act.put, List.setIfInBounds_toArray, List.set_cons_zero, List.set_cons_succ]
    refine Pe_put (i := 2) 34 (v := .slice g.a vn g.cap) rfl rfl (by kernel_rfl) (by kernel_rfl) (by kernel_rfl) (by kernel_rfl) (fun _ _ _ h => h) (Or.inl ⟨by rfl, fun w' hw' => ?_⟩) hS ?_
    · (have c := cellOf (box_adds P5.out hw') 2; clear hw'; go_simp)
    simp only [Act.put, List.setIfInBounds_toArray, List.set_cons_zero, List.set_cons_succ]
    refine Pe_put (i := 3) 35 (v := .int .i64 (i : Int)) rfl rfl (by kernel_rfl) (by kernel_rfl) (by kernel_rfl) (by kernel_rfl) (fun _ _ _ h => h) (Or.inl ⟨by rfl, fun w' hw' => ?_⟩) hS ?_
    · go_simp
    simp only [Act.put, List.setIfInBounds_toArray, List.set_cons_zero, List.set_cons_succ]
    refine Pe_put (i := 4) 36 (v := .slice g.a i g.cap) rfl rfl (by kernel_rfl) (by kernel_rfl) (by kernel_rfl) (by kernel_rfl) (fun _ _ _ h => h) (Or.inl ⟨by rfl, fun w' hw' => ?_⟩) hS ?_
    · (have hs1 := run_preVB g.a vn g.cap i (by have := HR5.out; omega) w'; clear hw'; go_simp)
    simp only [Act.put, List.setIfInBounds_toArray, List.set_cons_zero, List.set_cons_succ]
    refine Pe_put (i := 6) 38 (v := .pointer (some ⟨N1, 2, none⟩)) rfl rfl (by kernel_rfl) (by kernel_rfl) (by kernel_rfl) (by kernel_rfl) (fun _ _ _ h => h) (Or.inl ⟨by rfl, fun w' hw' => ?_⟩) hS ?_
    · go_simp
    simp only [Act.put, List.setIfInBounds_toArray, List.set_cons_zero, List.set_cons_succ]
    refine Pe_put (i := 7) 39 (v := .slice yg.a yvn yg.cap) rfl rfl (by kernel_rfl) (by kernel_rfl) (by kernel_rfl) (by kernel_rfl) (fun _ _ _ h => h) (Or.inl ⟨by rfl, fun w' hw' => ?_⟩) hS ?_
    · (have c := cellOf (box_adds Q5.out hw') 2; clear hw'; go_simp)
    simp only [Act.put, List.setIfInBounds_toArray, List.set_cons_zero, List.set_cons_succ]
    refine Pe_put (i := 9) 41 (v := .pointer (some ⟨N0, 2, none⟩)) rfl rfl (by kernel_rfl) (by kernel_rfl) (by kernel_rfl) (by kernel_rfl) (fun _ _ _ h => h) (Or.inl ⟨by rfl, fun w' hw' => ?_⟩) hS ?_
    · go_simp
    simp only [Act.put, List.setIfInBounds_toArray, List.set_cons_zero, List.set_cons_succ]
    refine Pe_put (i := 10) 42 (v := .slice g.a vn g.cap) rfl rfl (by kernel_rfl) (by kernel_rfl) (by kernel_rfl) (by kernel_rfl) (fun _ _ _ h => h) (Or.inl ⟨by rfl, fun w' hw' => ?_⟩) hS ?_
    · (have c := cellOf (box_adds P5.out hw') 2; clear hw'; go_simp)
    simp only [Act.put, List.setIfInBounds_toArray, List.set_cons_zero, List.set_cons_succ]
    refine Pe_put (i := 11) 43 (v := .int .i64 (i : Int)) rfl rfl (by kernel_rfl) (by kernel_rfl) (by kernel_rfl) (by kernel_rfl) (fun _ _ _ h => h) (Or.inl ⟨by rfl, fun w' hw' => ?_⟩) hS ?_
    · go_simp
    simp only [Act.put, List.setIfInBounds_toArray, List.set_cons_zero, List.set_cons_succ]
    refine Pe_put (i := 12) 44 (v := .int .i64 (out : Int)) rfl rfl (by kernel_rfl) (by kernel_rfl) (by kernel_rfl) (by kernel_rfl) (fun _ _ _ h => h) (Or.inl ⟨by rfl, fun w' hw' => ?_⟩) hS ?_
    · go_simp
    simp only [Act.put, List.setIfInBounds_toArray, List.set_cons_zero, List.set_cons_succ]
    refine Pe_put (i := 13) 45 (v := .int .i64 (j : Int)) rfl rfl (by kernel_rfl) (by kernel_rfl) (by kernel_rfl) (by kernel_rfl) (fun _ _ _ h => h) (Or.inl ⟨by rfl, fun w' hw' => ?_⟩) hS ?_
    · (have hij' := HIJ.out; have hwr : IntKind.i64.wrap (j : Int) = (j : Int) := by rw [IntKind.wrap_i64]; omega); go_simp
    simp only [Act.put, List.setIfInBounds_toArray, List.set_cons_zero, List.set_cons_succ]
    refine Pe_put (i := 14) 46 (v := .slice (sufA g.a g.cap j) (vn - j) (g.cap - j)) rfl rfl (by kernel_rfl) (by kernel_rfl) (by kernel_rfl) (by kernel_rfl) (fun _ _ _ h => h) (Or.inl ⟨by rfl, fun w' hw' => ?_⟩) hS ?_
    · (have hs1 := run_sufVB g.a vn g.cap j (by have := HR5.out; omega) w'; clear hw'; go_simp)
    simp only [Act.put, List.setIfInBounds_toArray, List.set_cons_zero, List.set_cons_succ]
    refine Pe_all (rs := [0]) (by kernel_rfl) (by simp) (fun jj hj => ?_)
    obtain rfl := List.mem_singleton.1 hj
    have hA1 : (fun W' : World => Adds w5 W') (w5.drew.alloc (.cells #[] 30)) := Touch.alloc hS _
    refine EO_value 32 (v := .slice (some ⟨w5.drew.heap.size, 0, none⟩) 0 0) (w' := w5.drew.alloc (.cells #[] 30)) rfl rfl (by rfl) (by go_simp) hA1 ?_
    simp only [Act.put, List.setIfInBounds_toArray, List.set_cons_zero, List.set_cons_succ]
    obtain ⟨i5, hi5, hz5, hs5, hb5⟩ := infoEB
    refine Pe_do (i := 5) (some 37) (by kernel_rfl) rfl rfl rfl (fun K' hK => ?_)
    refine wp_append_lit 23 30 i5 (.slice none 0 0) 24 Try.underlying23 hi5 hz5 hs5 hb5 rfl (.tmp 32) (.tmp 36) rfl w5.heap.size w5.drew.heap.size (adds_dr w5).size (heap_alloc_new _ _) rfl g.a i g.cap ((g.l.map PV).take i) rfl (by rw [List.length_take, List.length_map, ← HLs.out.2.1]; have := HR5.out; omega) (((HX.out.vals.at_).adds (A5.out.trans hA1)).pre i) HX.out.vals.non (fun u hu => one_PV g.l u (List.mem_of_mem_take hu)) (by have := HR5.out; omega) (by decide) ?_
    intro a15 c15 w15 r1 hA1b
    have hS1 : (fun W' : World => Adds w5 W') w15 := Touch.trans hA1 hA1b
    refine hK _ _ (fun _ => hS1) ?_
    simp only [Act.put, List.setIfInBounds_toArray, List.set_cons_zero, List.set_cons_succ]
    clear hS hA1 hA1b hK; have hS := hS1; clear hS1
    refine Pe_do (i := 8) (some 40) (by kernel_rfl) rfl rfl rfl (fun K' hK => ?_)
    refine wp_append_list (w0 := w5) 23 30 i5 (.slice none 0 0) 24 Try.underlying23 hi5 hz5 hs5 hb5 rfl (.tmp 37) (.tmp 39) rfl w5.heap.size (.slice a15 i c15) i ((g.l.map PV).take i) rfl r1 hS rfl yg.a yvn yg.cap (yg.l.map PV) rfl (by rw [List.length_map, ← HLs.out.2.2.2.2.1]) ((HY.out.vals.at_).adds (A5.out.trans hS)) HY.out.vals.non (one_PV yg.l) (by have := HR5.out; omega) (by have := HR5.out; unfold maxLen; omega) ?_
    intro a25 c25 w25 r2 hS1
    refine hK _ _ (fun _ => hS1) ?_
    simp only [Act.put, List.setIfInBounds_toArray, List.set_cons_zero, List.set_cons_succ]
    clear hS hK r1; have hS := hS1; clear hS1
    refine Pe_do (i := 15) (some 47) (by kernel_rfl) rfl rfl rfl (fun K' hK => ?_)
    refine wp_append_list (w0 := w5) 23 30 i5 (.slice none 0 0) 24 Try.underlying23 hi5 hz5 hs5 hb5 rfl (.tmp 40) (.tmp 46) rfl w5.heap.size (.slice a25 (i + yvn) c25) (i + yvn) ((g.l.map PV).take i ++ (yg.l.map PV)) rfl r2 hS rfl (sufA g.a g.cap j) (vn - j) (g.cap - j) ((g.l.map PV).drop j) rfl (by rw [List.length_drop, List.length_map, ← HLs.out.2.1]) (sufCQ ((HX.out.vals.at_).adds (A5.out.trans hS)) g.cap j (by rw [List.length_map, ← HLs.out.2.1]; have := HR5.out; omega)) (fun e => sufA_none HX.out.vals.non e) (fun u hu => one_PV g.l u (List.mem_of_mem_drop hu)) (by have := HR5.out; omega) (by have := HR5.out; unfold maxLen; omega) ?_
    intro a35 c35 w35 r3 hS1
    refine hK _ _ (fun _ => hS1) ?_
    simp only [Act.put, List.setIfInBounds_toArray, List.set_cons_zero, List.set_cons_succ]
    clear hS hK r2 hi5 hz5 hs5 hb5; have hS := hS1; clear hS1
    refine Pe_put (i := 16) 48 (v := .pointer (some ⟨N3, 2, none⟩)) rfl rfl (by kernel_rfl) (by kernel_rfl) (by kernel_rfl) (by kernel_rfl) (fun _ _ _ h => h) (Or.inl ⟨by rfl, fun w' hw' => ?_⟩) hS ?_
    · go_simp
    simp only [Act.put, List.setIfInBounds_toArray, List.set_cons_zero, List.set_cons_succ]
    have hbx := box_adds B5.out hS
    have HBx5 := hid hbx
    have HS5 := hid hS
    have HRw5 := hid r3
    have q1 := box_free hbx 2
    have q3 := cellOf hbx 2
    clear hbx r3
    refine Pe_do (i := 17) none (by kernel_rfl) rfl rfl rfl (fun K' hK => ?_)
    clear hS
    go_simp
    refine hK undef _ (fun h => absurd rfl h) (Pe_done (by kernel_rfl) ?_ _)
    clear q1 q3 hK
    simp only [Act.put]
    obtain ⟨w6, hw6⟩ : ∃ W, W = w35.setCell ⟨N3, 2, none⟩ (.slice a35 (i + yvn + (vn - j)) c35) := ⟨_, rfl⟩
    have HT6 := hid (show w6.heap[N3]? = some (.cells #[.bool true, .slice a34 (i + ykn + (kn - j)) c34, .slice a35 (i + yvn + (vn - j)) c35, .slice .none 0 0] 26 (0, 0)) ∧ Touch (fun j => j = N3) w5 w6 by rw [hw6]; exact box_put HS5.out HBx5.out)
    have HW6 := hid (show Touch (fun j => j = N3) w35 w6 by rw [hw6]; exact (box_put (Touch.refl _ _) HBx5.out).2)
    rw [← hw6]
    clear hw6
    have A6 := hid (show Adds w w6 from A5.out.then HT6.out.2 (fun j hj e => by have := HNe.out; omega))
    have B6 := hid HT6.out.1
    have P6 := hid (show w6.heap[N0]? = some (.cells #[.bool true, .slice ka kn kc, .slice g.a vn g.cap, .slice ia zn ic] 26) by rw [HT6.out.2.block N0 (Array.getElem?_eq_some_iff.1 P5.out).1 HNe.out.1]; exact P5.out)
    have Q6 := hid (show w6.heap[N1]? = some (.cells #[.bool yl, .slice yka ykn ykc, .slice yg.a yvn yg.cap, .slice yia yzn yic] 26) by rw [HT6.out.2.block N1 (Array.getElem?_eq_some_iff.1 Q5.out).1 HNe.out.2.1]; exact Q5.out)
    have R6 := hid (show w6.heap[N2]? = some RZ by rw [HT6.out.2.block N2 (Array.getElem?_eq_some_iff.1 R5.out).1 HNe.out.2.2.1]; exact R5.out)
    go_wp2_with (first
      | (refine wpList_load_row rfl 26 _ rfl N3 rfl 26 _ _ _ B6.out Try.underlying26 rfl (infoR4 _ _ _ _) ?_)
      | (refine wpList_store_row rfl 26 _ _ rfl N2 #[.bool true, .slice a34 (i + ykn + (kn - j)) c34, .slice a35 (i + yvn + (vn - j)) c35, .slice .none 0 0] rfl rfl 26 _ R6.out (infoR4 _ _ _ _) rfl (one4 _ _ _ _ _ _ _ _ _ _) ?_))
    refine bodyPost_ret (results_r1 rfl _ _ N2 _ rfl (setRow_heap w6 N2 _ _ 26 _ R6.out) rfl) rfl ?_
    obtain ⟨w7, hw7⟩ : ∃ w7, w7 = w6.setRow N2 #[.bool true, .slice a34 (i + ykn + (kn - j)) c34, .slice a35 (i + yvn + (vn - j)) c35, .slice .none 0 0] := ⟨_, rfl⟩
    rw [← hw7]
    have hT7 : Touch (fun j => j = N2) w6 w7 := by rw [hw7]; exact touch_row w6 N2 _
    have A7 : Adds w w7 := A6.out.then hT7 (fun j hj e => by have := HNe.out; omega)
    have K6 := row_touch (row_touch HK5.out HS5.out (fun _ _ => id)) HW6.out (fun j hj c => row_ne (row_touch HK5.out HS5.out (fun _ _ => id)) HBx5.out (by decide) hj c)
    have K7 := row_q (row_touch K6 hT7 (fun j hj c => row_ne K6 R6.out (by decide) hj c))
    have V6 := row_touch HRw5.out HW6.out (fun j hj c => row_ne HRw5.out HBx5.out (by decide) hj c)
    have V7 := row_q (row_touch V6 hT7 (fun j hj c => row_ne V6 R6.out (by decide) hj c))
    have ek : i + ykn + (kn - j) = (ks.take i ++ (yks ++ ks.drop j)).length := by rw [List.length_append, List.length_append, List.length_take, List.length_drop, ← HLs.out.1, ← HLs.out.2.2.2.1]; have := HR4.out; omega
    have ev : i + yvn + (vn - j) = (g.l.take i ++ (yg.l ++ g.l.drop j)).length := by rw [List.length_append, List.length_append, List.length_take, List.length_drop, ← HLs.out.2.1, ← HLs.out.2.2.2.2.1]; have := HR5.out; omega
    rw [show (g.l.map PV).take i ++ yg.l.map PV ++ (g.l.map PV).drop j = (g.l.take i ++ (yg.l ++ g.l.drop j)).map PV by simp [List.map_take, List.map_drop]] at V7
    rw [ek] at K7 ⊢
    rw [ev] at V7 ⊢
    refine ⟨⟨true, a34, c34, ks.take i ++ (yks ++ ks.drop j), ⟨a35, c35, g.l.take i ++ (yg.l ++ g.l.drop j)⟩, none, 0, []⟩, rfl, by rw [HNd.out]; rfl, ⟨K7.2.2.mono (fun k _ hk => .inr (.inr (Nat.le_trans A4.out.size hk))), K7.2.1, K7.1, ⟨V7.2.2.mono (fun k _ hk => .inr (.inr (Nat.le_trans A5.out.size hk))), V7.2.1, fun p hp => ?_⟩, V7.1, CQ.nil _ _ _, fun _ => rfl, Nat.le_refl _⟩, A7⟩
    rcases List.mem_append.1 hp with hp | hp
    · exact ((HX.out.vals.all p (List.mem_of_mem_take hp)).adds A7).mono (fun _ _ hk => .inl hk)
    · rcases List.mem_append.1 hp with hp | hp
      · exact ((HY.out.vals.all p hp).adds A7).mono (fun _ _ hk => .inr (.inl hk))
      · exact ((HX.out.vals.all p (List.mem_of_mem_drop hp)).adds A7).mono (fun _ _ hk => .inl hk)
  | false =>
    have B4 := hid HB3.out
    have HR4 := hid (show i ≤ kn ∧ j ≤ kn ∧ kn ≤ kc ∧ kn ≤ 1000 ∧ ykn ≤ 1000 ∧ i ≤ 1000 ∧ j ≤ 1000 ∧ out ≤ 1000 from ⟨hik, hjk, by have := HX.out.kr; rw [HLs.out.1]; exact this, hk9, hyk9, by omega, by omega, hout9⟩)
    refine Pe_begin (S := fun W' : World => Adds w4 W') (X := 17) (by kernel_rfl) ?_
    have hS : (fun W' : World => Adds w4 W') w4.drew := adds_dr w4
    refine Pe_put (i := 1) 14 (v := .pointer (some ⟨N0, 1, none⟩)) rfl rfl (by kernel_rfl) (by kernel_rfl) (by kernel_rfl) (by kernel_rfl) (fun _ _ _ h => h) (Or.inl ⟨by rfl, fun w' hw' => ?_⟩) hS ?_
    · go_simp
    simp only [Act.put, List.setIfInBounds_toArray, List.set_cons_zero, List.set_cons_succ]
    refine Pe_put (i := 2) 15 (v := .slice ka kn kc) rfl rfl (by kernel_rfl) (by kernel_rfl) (by kernel_rfl) (by kernel_rfl) (fun _ _ _ h => h) (Or.inl ⟨by rfl, fun w' hw' => ?_⟩) hS ?_
    · (have c := cellOf (box_adds P4.out hw') 1; clear hw'; go_simp)
    simp only [Act.put, List.setIfInBounds_toArray, List.set_cons_zero, List.set_cons_succ]
    refine Pe_put (i := 3) 16 (v := .int .i64 (i : Int)) rfl rfl (by kernel_rfl) (by kernel_rfl) (by kernel_rfl) (by kernel_rfl) (fun _ _ _ h => h) (Or.inl ⟨by rfl, fun w' hw' => ?_⟩) hS ?_
    · go_simp
    simp only [Act.put, List.setIfInBounds_toArray, List.set_cons_zero, List.set_cons_succ]
    refine Pe_put (i := 4) 17 (v := .slice ka i kc) rfl rfl (by kernel_rfl) (by kernel_rfl) (by kernel_rfl) (by kernel_rfl) (fun _ _ _ h => h) (Or.inl ⟨by rfl, fun w' hw' => ?_⟩) hS ?_
    · (have hs1 := run_preVS ka kn kc i (by have := HR4.out; omega) w'; clear hw'; go_simp)
    simp only [Act.put, List.setIfInBounds_toArray, List.set_cons_zero, List.set_cons_succ]
    refine Pe_put (i := 6) 19 (v := .pointer (some ⟨N1, 1, none⟩)) rfl rfl (by kernel_rfl) (by kernel_rfl) (by kernel_rfl) (by kernel_rfl) (fun _ _ _ h => h) (Or.inl ⟨by rfl, fun w' hw' => ?_⟩) hS ?_
    · go_simp
    simp only [Act.put, List.setIfInBounds_toArray, List.set_cons_zero, List.set_cons_succ]
    refine Pe_put (i := 7) 20 (v := .slice yka ykn ykc) rfl rfl (by kernel_rfl) (by kernel_rfl) (by kernel_rfl) (by kernel_rfl) (fun _ _ _ h => h) (Or.inl ⟨by rfl, fun w' hw' => ?_⟩) hS ?_
    · (have c := cellOf (box_adds Q4.out hw') 1; clear hw'; go_simp)
    simp only [Act.put, List.setIfInBounds_toArray, List.set_cons_zero, List.set_cons_succ]
    refine Pe_put (i := 9) 22 (v := .pointer (some ⟨N0, 1, none⟩)) rfl rfl (by kernel_rfl) (by kernel_rfl) (by kernel_rfl) (by kernel_rfl) (fun _ _ _ h => h) (Or.inl ⟨by rfl, fun w' hw' => ?_⟩) hS ?_
    · go_simp
    simp only [Act.put, List.setIfInBounds_toArray, List.set_cons_zero, List.set_cons_succ]
    refine Pe_put (i := 10) 23 (v := .slice ka kn kc) rfl rfl (by kernel_rfl) (by kernel_rfl) (by kernel_rfl) (by kernel_rfl) (fun _ _ _ h => h) (Or.inl ⟨by rfl, fun w' hw' => ?_⟩) hS ?_
    · (have c := cellOf (box_adds P4.out hw') 1; clear hw'; go_simp)
    simp only [Act.put, List.setIfInBounds_toArray, List.set_cons_zero, List.set_cons_succ]
    refine Pe_put (i := 11) 24 (v := .int .i64 (i : Int)) rfl rfl (by kernel_rfl) (by kernel_rfl) (by kernel_rfl) (by kernel_rfl) (fun _ _ _ h => h) (Or.inl ⟨by rfl, fun w' hw' => ?_⟩) hS ?_
    · go_simp
    simp only [Act.put, List.setIfInBounds_toArray, List.set_cons_zero, List.set_cons_succ]
    refine Pe_put (i := 12) 25 (v := .int .i64 (out : Int)) rfl rfl (by kernel_rfl) (by kernel_rfl) (by kernel_rfl) (by kernel_rfl) (fun _ _ _ h => h) (Or.inl ⟨by rfl, fun w' hw' => ?_⟩) hS ?_
    · go_simp
    simp only [Act.put, List.setIfInBounds_toArray, List.set_cons_zero, List.set_cons_succ]
    refine Pe_put (i := 13) 26 (v := .int .i64 (j : Int)) rfl rfl (by kernel_rfl) (by kernel_rfl) (by kernel_rfl) (by kernel_rfl) (fun _ _ _ h => h) (Or.inl ⟨by rfl, fun w' hw' => ?_⟩) hS ?_
    · (have hij' := HIJ.out; have hwr : IntKind.i64.wrap (j : Int) = (j : Int) := by rw [IntKind.wrap_i64]; omega); go_simp
    simp only [Act.put, List.setIfInBounds_toArray, List.set_cons_zero, List.set_cons_succ]
    refine Pe_put (i := 14) 27 (v := .slice (sufA ka kc j) (kn - j) (kc - j)) rfl rfl (by kernel_rfl) (by kernel_rfl) (by kernel_rfl) (by kernel_rfl) (fun _ _ _ h => h) (Or.inl ⟨by rfl, fun w' hw' => ?_⟩) hS ?_
    · (have hs1 := run_sufVS ka kn kc j (by have := HR4.out; omega) w'; clear hw'; go_simp)
    simp only [Act.put, List.setIfInBounds_toArray, List.set_cons_zero, List.set_cons_succ]
    refine Pe_all (rs := [0]) (by kernel_rfl) (by simp) (fun jj hj => ?_)
    obtain rfl := List.mem_singleton.1 hj
    have hA1 : (fun W' : World => Adds w4 W') (w4.drew.alloc (.cells #[] 9)) := Touch.alloc hS _
    refine EO_value 13 (v := .slice (some ⟨w4.drew.heap.size, 0, none⟩) 0 0) (w' := w4.drew.alloc (.cells #[] 9)) rfl rfl (by rfl) (by go_simp) hA1 ?_
    simp only [Act.put, List.setIfInBounds_toArray, List.set_cons_zero, List.set_cons_succ]
    obtain ⟨i4, hi4, hz4, hs4, hb4⟩ := infoES
    refine Pe_do (i := 5) (some 18) (by kernel_rfl) rfl rfl rfl (fun K' hK => ?_)
    refine wp_append_lit 22 9 i4 (.string ⟨#[]⟩) 16 Try.underlying22 hi4 hz4 hs4 hb4 rfl (.tmp 13) (.tmp 17) rfl w4.heap.size w4.drew.heap.size (adds_dr w4).size (heap_alloc_new _ _) rfl ka i kc ((Ss ks).take i) rfl (by rw [List.length_take, len_Ss, ← HLs.out.1]; have := HR4.out; omega) (((HX.out.keys).adds (A4.out.trans hA1)).pre i) HX.out.kn (fun u hu => one_Ss ks u (List.mem_of_mem_take hu)) (by have := HR4.out; omega) (by decide) ?_
    intro a14 c14 w14 r1 hA1b
    have hS1 : (fun W' : World => Adds w4 W') w14 := Touch.trans hA1 hA1b
    refine hK _ _ (fun _ => hS1) ?_
    simp only [Act.put, List.setIfInBounds_toArray, List.set_cons_zero, List.set_cons_succ]
    clear hS hA1 hA1b hK; have hS := hS1; clear hS1
    refine Pe_do (i := 8) (some 21) (by kernel_rfl) rfl rfl rfl (fun K' hK => ?_)
    refine wp_append_list (w0 := w4) 22 9 i4 (.string ⟨#[]⟩) 16 Try.underlying22 hi4 hz4 hs4 hb4 rfl (.tmp 18) (.tmp 20) rfl w4.heap.size (.slice a14 i c14) i ((Ss ks).take i) rfl r1 hS rfl yka ykn ykc (Ss yks) rfl (by rw [len_Ss, ← HLs.out.2.2.2.1]) ((HY.out.keys).adds (A4.out.trans hS)) HY.out.kn (one_Ss yks) (by have := HR4.out; omega) (by have := HR4.out; unfold maxLen; omega) ?_
    intro a24 c24 w24 r2 hS1
    refine hK _ _ (fun _ => hS1) ?_
    simp only [Act.put, List.setIfInBounds_toArray, List.set_cons_zero, List.set_cons_succ]
    clear hS hK r1; have hS := hS1; clear hS1
    refine Pe_do (i := 15) (some 28) (by kernel_rfl) rfl rfl rfl (fun K' hK => ?_)
    refine wp_append_list (w0 := w4) 22 9 i4 (.string ⟨#[]⟩) 16 Try.underlying22 hi4 hz4 hs4 hb4 rfl (.tmp 21) (.tmp 27) rfl w4.heap.size (.slice a24 (i + ykn) c24) (i + ykn) ((Ss ks).take i ++ (Ss yks)) rfl r2 hS rfl (sufA ka kc j) (kn - j) (kc - j) ((Ss ks).drop j) rfl (by rw [List.length_drop, len_Ss, ← HLs.out.1]) (sufCQ ((HX.out.keys).adds (A4.out.trans hS)) kc j (by rw [len_Ss, ← HLs.out.1]; have := HR4.out; omega)) (fun e => sufA_none HX.out.kn e) (fun u hu => one_Ss ks u (List.mem_of_mem_drop hu)) (by have := HR4.out; omega) (by have := HR4.out; unfold maxLen; omega) ?_
    intro a34 c34 w34 r3 hS1
    refine hK _ _ (fun _ => hS1) ?_
    simp only [Act.put, List.setIfInBounds_toArray, List.set_cons_zero, List.set_cons_succ]
    clear hS hK r2 hi4 hz4 hs4 hb4; have hS := hS1; clear hS1
    refine Pe_put (i := 16) 29 (v := .pointer (some ⟨N3, 1, none⟩)) rfl rfl (by kernel_rfl) (by kernel_rfl) (by kernel_rfl) (by kernel_rfl) (fun _ _ _ h => h) (Or.inl ⟨by rfl, fun w' hw' => ?_⟩) hS ?_
    · go_simp
    simp only [Act.put, List.setIfInBounds_toArray, List.set_cons_zero, List.set_cons_succ]
    have hbx := box_adds B4.out hS
    have HBx4 := hid hbx
    have HS4 := hid hS
    have HRw4 := hid r3
    have q1 := box_free hbx 1
    have q3 := cellOf hbx 1
    clear hbx r3
    refine Pe_do (i := 17) none (by kernel_rfl) rfl rfl rfl (fun K' hK => ?_)
    clear hS
    go_simp
    refine hK undef _ (fun h => absurd rfl h) (Pe_done (by kernel_rfl) ?_ _)
    clear q1 q3 hK
    simp only [Act.put]
    obtain ⟨w5, hw5⟩ : ∃ W, W = w34.setCell ⟨N3, 1, none⟩ (.slice a34 (i + ykn + (kn - j)) c34) := ⟨_, rfl⟩
    have HT5 := hid (show w5.heap[N3]? = some (.cells #[.bool false, .slice a34 (i + ykn + (kn - j)) c34, .slice .none 0 0, .slice .none 0 0] 26 (0, 0)) ∧ Touch (fun j => j = N3) w4 w5 by rw [hw5]; exact box_put HS4.out HBx4.out)
    have HW5 := hid (show Touch (fun j => j = N3) w34 w5 by rw [hw5]; exact (box_put (Touch.refl _ _) HBx4.out).2)
    rw [← hw5]
    clear hw5
    have A5 := hid (show Adds w w5 from A4.out.then HT5.out.2 (fun j hj e => by have := HNe.out; omega))
    have B5 := hid HT5.out.1
    have P5 := hid (show w5.heap[N0]? = some (.cells #[.bool false, .slice ka kn kc, .slice g.a vn g.cap, .slice ia zn ic] 26) by rw [HT5.out.2.block N0 (Array.getElem?_eq_some_iff.1 P4.out).1 HNe.out.1]; exact P4.out)
    have Q5 := hid (show w5.heap[N1]? = some (.cells #[.bool yl, .slice yka ykn ykc, .slice yg.a yvn yg.cap, .slice yia yzn yic] 26) by rw [HT5.out.2.block N1 (Array.getElem?_eq_some_iff.1 Q4.out).1 HNe.out.2.1]; exact Q4.out)
    have R5 := hid (show w5.heap[N2]? = some RZ by rw [HT5.out.2.block N2 (Array.getElem?_eq_some_iff.1 R4.out).1 HNe.out.2.2.1]; exact R4.out)
    obtain ⟨x0, _, _, _⟩ := box_cells P5.out
    go_upto_region 5 with fail
    clear x0
    have HK5 := hid (show w5.ownsRow w4.heap.size 9 1 (.slice a34 (i + ykn + (kn - j)) c34) (i + ykn + (kn - j)) (Ss (ks.take i ++ (yks ++ ks.drop j))) by
      have r := row_touch HRw4.out HW5.out (fun j hj c => row_ne HRw4.out HBx4.out (by decide) hj c)
      rw [show Ss (ks.take i ++ (yks ++ ks.drop j)) = (Ss ks).take i ++ Ss yks ++ (Ss ks).drop j by simp [Ss, List.map_take, List.map_drop]]
      exact r)
    have HR5 := hid (show i ≤ zn ∧ j ≤ zn ∧ zn ≤ ic ∧ zn ≤ 1000 ∧ yzn ≤ 1000 ∧ i ≤ 1000 ∧ j ≤ 1000 ∧ out ≤ 1000 from ⟨by rw [HLf.out.2 rfl]; exact hik, by rw [HLf.out.2 rfl]; exact hjk, by have := HX.out.ir; rw [HLs.out.2.2.1]; exact this, hz9, hyz9, by omega, by omega, hout9⟩)
    refine Pe_begin (S := fun W' : World => Adds w5 W') (X := 17) (by kernel_rfl) ?_
    have hS : (fun W' : World => Adds w5 W') w5.drew := adds_dr w5
    refine Pe_put (i := 1) 50 (v := .pointer (some ⟨N0, 3, none⟩)) rfl rfl (by kernel_rfl) (by kernel_rfl) (by kernel_rfl) (by kernel_rfl) (fun _ _ _ h => h) (Or.inl ⟨by rfl, fun w' hw' => ?_⟩) hS ?_
    · go_simp
    simp only [Act.put, List.setIfInBounds_toArray, List.set_cons_zero, List.set_cons_succ]
    refine Pe_put (i := 2) 51 (v := .slice ia zn ic) rfl rfl (by kernel_rfl) (by kernel_rfl) (by kernel_rfl) (by kernel_rfl) (fun _ _ _ h => h) (Or.inl ⟨by rfl, fun w' hw' => ?_⟩) hS ?_
    · (have c := cellOf (box_adds P5.out hw') 3; clear hw'; go_simp)
    simp only [Act.put, List.setIfInBounds_toArray, List.set_cons_zero, List.set_cons_succ]
    refine Pe_put (i := 3) 52 (v := .int .i64 (i : Int)) rfl rfl (by kernel_rfl) (by kernel_rfl) (by kernel_rfl) (by kernel_rfl) (fun _ _ _ h => h) (Or.inl ⟨by rfl, fun w' hw' => ?_⟩) hS ?_
    · go_simp
    simp only [Act.put, List.setIfInBounds_toArray, List.set_cons_zero, List.set_cons_succ]
    refine Pe_put (i := 4) 53 (v := .slice ia i ic) rfl rfl (by kernel_rfl) (by kernel_rfl) (by kernel_rfl) (by kernel_rfl) (fun _ _ _ h => h) (Or.inl ⟨by rfl, fun w' hw' => ?_⟩) hS ?_
    · (have hs1 := run_preVI ia zn ic i (by have := HR5.out; omega) w'; clear hw'; go_simp)
    simp only [Act.put, List.setIfInBounds_toArray, List.set_cons_zero, List.set_cons_succ]
    refine Pe_put (i := 6) 55 (v := .pointer (some ⟨N1, 3, none⟩)) rfl rfl (by kernel_rfl) (by kernel_rfl) (by kernel_rfl) (by kernel_rfl) (fun _ _ _ h => h) (Or.inl ⟨by rfl, fun w' hw' => ?_⟩) hS ?_
    · go_simp
    simp only [Act.put, List.setIfInBounds_toArray, List.set_cons_zero, List.set_cons_succ]
    refine Pe_put (i := 7) 56 (v := .slice yia yzn yic) rfl rfl (by kernel_rfl) (by kernel_rfl) (by kernel_rfl) (by kernel_rfl) (fun _ _ _ h => h) (Or.inl ⟨by rfl, fun w' hw' => ?_⟩) hS ?_
    · (have c := cellOf (box_adds Q5.out hw') 3; clear hw'; go_simp)
    simp only [Act.put, List.setIfInBounds_toArray, List.set_cons_zero, List.set_cons_succ]
    refine Pe_put (i := 9) 58 (v := .pointer (some ⟨N0, 3, none⟩)) rfl rfl (by kernel_rfl) (by kernel_rfl) (by kernel_rfl) (by kernel_rfl) (fun _ _ _ h => h) (Or.inl ⟨by rfl, fun w' hw' => ?_⟩) hS ?_
    · go_simp
    simp only [Act.put, List.setIfInBounds_toArray, List.set_cons_zero, List.set_cons_succ]
    refine Pe_put (i := 10) 59 (v := .slice ia zn ic) rfl rfl (by kernel_rfl) (by kernel_rfl) (by kernel_rfl) (by kernel_rfl) (fun _ _ _ h => h) (Or.inl ⟨by rfl, fun w' hw' => ?_⟩) hS ?_
    · (have c := cellOf (box_adds P5.out hw') 3; clear hw'; go_simp)
    simp only [Act.put, List.setIfInBounds_toArray, List.set_cons_zero, List.set_cons_succ]
    refine Pe_put (i := 11) 60 (v := .int .i64 (i : Int)) rfl rfl (by kernel_rfl) (by kernel_rfl) (by kernel_rfl) (by kernel_rfl) (fun _ _ _ h => h) (Or.inl ⟨by rfl, fun w' hw' => ?_⟩) hS ?_
    · go_simp
    simp only [Act.put, List.setIfInBounds_toArray, List.set_cons_zero, List.set_cons_succ]
    refine Pe_put (i := 12) 61 (v := .int .i64 (out : Int)) rfl rfl (by kernel_rfl) (by kernel_rfl) (by kernel_rfl) (by kernel_rfl) (fun _ _ _ h => h) (Or.inl ⟨by rfl, fun w' hw' => ?_⟩) hS ?_
    · go_simp
    simp only [Act.put, List.setIfInBounds_toArray, List.set_cons_zero, List.set_cons_succ]
    refine Pe_put (i := 13) 62 (v := .int .i64 (j : Int)) rfl rfl (by kernel_rfl) (by kernel_rfl) (by kernel_rfl) (by kernel_rfl) (fun _ _ _ h => h) (Or.inl ⟨by rfl, fun w' hw' => ?_⟩) hS ?_
    · (have hij' := HIJ.out; have hwr : IntKind.i64.wrap (j : Int) = (j : Int) := by rw [IntKind.wrap_i64]; omega); go_simp
    simp only [Act.put, List.setIfInBounds_toArray, List.set_cons_zero, List.set_cons_succ]
    refine Pe_put (i := 14) 63 (v := .slice (sufA ia ic j) (zn - j) (ic - j)) rfl rfl (by kernel_rfl) (by kernel_rfl) (by kernel_rfl) (by kernel_rfl) (fun _ _ _ h => h) (Or.inl ⟨by rfl, fun w' hw' => ?_⟩) hS ?_
    · (have hs1 := run_sufVI ia zn ic j (by have := HR5.out; omega) w'; clear hw'; go_simp)
    simp only [Act.put, List.setIfInBounds_toArray, List.set_cons_zero, List.set_cons_succ]
    refine Pe_all (rs := [0]) (by kernel_rfl) (by simp) (fun jj hj => ?_)
    obtain rfl := List.mem_singleton.1 hj
    have hA1 : (fun W' : World => Adds w5 W') (w5.drew.alloc (.cells #[] 3)) := Touch.alloc hS _
    refine EO_value 49 (v := .slice (some ⟨w5.drew.heap.size, 0, none⟩) 0 0) (w' := w5.drew.alloc (.cells #[] 3)) rfl rfl (by rfl) (by go_simp) hA1 ?_
    simp only [Act.put, List.setIfInBounds_toArray, List.set_cons_zero, List.set_cons_succ]
    obtain ⟨i5, hi5, hz5, hs5, hb5⟩ := infoEI
    refine Pe_do (i := 5) (some 54) (by kernel_rfl) rfl rfl rfl (fun K' hK => ?_)
    refine wp_append_lit 24 3 i5 (.int .i64 0) 8 Try.underlying24 hi5 hz5 hs5 hb5 rfl (.tmp 49) (.tmp 53) rfl w5.heap.size w5.drew.heap.size (adds_dr w5).size (heap_alloc_new _ _) rfl ia i ic ((Is zs).take i) rfl (by rw [List.length_take, len_Is, ← HLs.out.2.2.1]; have := HR5.out; omega) (((HX.out.kids).adds (A5.out.trans hA1)).pre i) HX.out.inn (fun u hu => one_Is zs u (List.mem_of_mem_take hu)) (by have := HR5.out; omega) (by decide) ?_
    intro a15 c15 w15 r1 hA1b
    have hS1 : (fun W' : World => Adds w5 W') w15 := Touch.trans hA1 hA1b
    refine hK _ _ (fun _ => hS1) ?_
    simp only [Act.put, List.setIfInBounds_toArray, List.set_cons_zero, List.set_cons_succ]
    clear hS hA1 hA1b hK; have hS := hS1; clear hS1
    refine Pe_do (i := 8) (some 57) (by kernel_rfl) rfl rfl rfl (fun K' hK => ?_)
    refine wp_append_list (w0 := w5) 24 3 i5 (.int .i64 0) 8 Try.underlying24 hi5 hz5 hs5 hb5 rfl (.tmp 54) (.tmp 56) rfl w5.heap.size (.slice a15 i c15) i ((Is zs).take i) rfl r1 hS rfl yia yzn yic (Is yzs) rfl (by rw [len_Is, ← HLs.out.2.2.2.2.2]) ((HY.out.kids).adds (A5.out.trans hS)) HY.out.inn (one_Is yzs) (by have := HR5.out; omega) (by have := HR5.out; unfold maxLen; omega) ?_
    intro a25 c25 w25 r2 hS1
    refine hK _ _ (fun _ => hS1) ?_
    simp only [Act.put, List.setIfInBounds_toArray, List.set_cons_zero, List.set_cons_succ]
    clear hS hK r1; have hS := hS1; clear hS1
    refine Pe_do (i := 15) (some 64) (by kernel_rfl) rfl rfl rfl (fun K' hK => ?_)
    refine wp_append_list (w0 := w5) 24 3 i5 (.int .i64 0) 8 Try.underlying24 hi5 hz5 hs5 hb5 rfl (.tmp 57) (.tmp 63) rfl w5.heap.size (.slice a25 (i + yzn) c25) (i + yzn) ((Is zs).take i ++ (Is yzs)) rfl r2 hS rfl (sufA ia ic j) (zn - j) (ic - j) ((Is zs).drop j) rfl (by rw [List.length_drop, len_Is, ← HLs.out.2.2.1]) (sufCQ ((HX.out.kids).adds (A5.out.trans hS)) ic j (by rw [len_Is, ← HLs.out.2.2.1]; have := HR5.out; omega)) (fun e => sufA_none HX.out.inn e) (fun u hu => one_Is zs u (List.mem_of_mem_drop hu)) (by have := HR5.out; omega) (by have := HR5.out; unfold maxLen; omega) ?_
    intro a35 c35 w35 r3 hS1
    refine hK _ _ (fun _ => hS1) ?_
    simp only [Act.put, List.setIfInBounds_toArray, List.set_cons_zero, List.set_cons_succ]
    clear hS hK r2 hi5 hz5 hs5 hb5; have hS := hS1; clear hS1
    refine Pe_put (i := 16) 65 (v := .pointer (some ⟨N3, 3, none⟩)) rfl rfl (by kernel_rfl) (by kernel_rfl) (by kernel_rfl) (by kernel_rfl) (fun _ _ _ h => h) (Or.inl ⟨by rfl, fun w' hw' => ?_⟩) hS ?_
    · go_simp
    simp only [Act.put, List.setIfInBounds_toArray, List.set_cons_zero, List.set_cons_succ]
    have hbx := box_adds B5.out hS
    have HBx5 := hid hbx
    have HS5 := hid hS
    have HRw5 := hid r3
    have q1 := box_free hbx 3
    have q3 := cellOf hbx 3
    clear hbx r3
    refine Pe_do (i := 17) none (by kernel_rfl) rfl rfl rfl (fun K' hK => ?_)
    clear hS
    go_simp
    refine hK undef _ (fun h => absurd rfl h) (Pe_done (by kernel_rfl) ?_ _)
    clear q1 q3 hK
    simp only [Act.put]
    obtain ⟨w6, hw6⟩ : ∃ W, W = w35.setCell ⟨N3, 3, none⟩ (.slice a35 (i + yzn + (zn - j)) c35) := ⟨_, rfl⟩
    have HT6 := hid (show w6.heap[N3]? = some (.cells #[.bool false, .slice a34 (i + ykn + (kn - j)) c34, .slice .none 0 0, .slice a35 (i + yzn + (zn - j)) c35] 26 (0, 0)) ∧ Touch (fun j => j = N3) w5 w6 by rw [hw6]; exact box_put HS5.out HBx5.out)
    have HW6 := hid (show Touch (fun j => j = N3) w35 w6 by rw [hw6]; exact (box_put (Touch.refl _ _) HBx5.out).2)
    rw [← hw6]
    clear hw6
    have A6 := hid (show Adds w w6 from A5.out.then HT6.out.2 (fun j hj e => by have := HNe.out; omega))
    have B6 := hid HT6.out.1
    have P6 := hid (show w6.heap[N0]? = some (.cells #[.bool false, .slice ka kn kc, .slice g.a vn g.cap, .slice ia zn ic] 26) by rw [HT6.out.2.block N0 (Array.getElem?_eq_some_iff.1 P5.out).1 HNe.out.1]; exact P5.out)
    have Q6 := hid (show w6.heap[N1]? = some (.cells #[.bool yl, .slice yka ykn ykc, .slice yg.a yvn yg.cap, .slice yia yzn yic] 26) by rw [HT6.out.2.block N1 (Array.getElem?_eq_some_iff.1 Q5.out).1 HNe.out.2.1]; exact Q5.out)
    have R6 := hid (show w6.heap[N2]? = some RZ by rw [HT6.out.2.block N2 (Array.getElem?_eq_some_iff.1 R5.out).1 HNe.out.2.2.1]; exact R5.out)
    go_wp2_with (first
      | (refine wpList_load_row rfl 26 _ rfl N3 rfl 26 _ _ _ B6.out Try.underlying26 rfl (infoR4 _ _ _ _) ?_)
      | (refine wpList_store_row rfl 26 _ _ rfl N2 #[.bool false, .slice a34 (i + ykn + (kn - j)) c34, .slice .none 0 0, .slice a35 (i + yzn + (zn - j)) c35] rfl rfl 26 _ R6.out (infoR4 _ _ _ _) rfl (one4 _ _ _ _ _ _ _ _ _ _) ?_))
    refine bodyPost_ret (results_r1 rfl _ _ N2 _ rfl (setRow_heap w6 N2 _ _ 26 _ R6.out) rfl) rfl ?_
    obtain ⟨w7, hw7⟩ : ∃ w7, w7 = w6.setRow N2 #[.bool false, .slice a34 (i + ykn + (kn - j)) c34, .slice .none 0 0, .slice a35 (i + yzn + (zn - j)) c35] := ⟨_, rfl⟩
    rw [← hw7]
    have hT7 : Touch (fun j => j = N2) w6 w7 := by rw [hw7]; exact touch_row w6 N2 _
    have A7 : Adds w w7 := A6.out.then hT7 (fun j hj e => by have := HNe.out; omega)
    have K6 := row_touch (row_touch HK5.out HS5.out (fun _ _ => id)) HW6.out (fun j hj c => row_ne (row_touch HK5.out HS5.out (fun _ _ => id)) HBx5.out (by decide) hj c)
    have K7 := row_q (row_touch K6 hT7 (fun j hj c => row_ne K6 R6.out (by decide) hj c))
    have V6 := row_touch HRw5.out HW6.out (fun j hj c => row_ne HRw5.out HBx5.out (by decide) hj c)
    have V7 := row_q (row_touch V6 hT7 (fun j hj c => row_ne V6 R6.out (by decide) hj c))
    have ek : i + ykn + (kn - j) = (ks.take i ++ (yks ++ ks.drop j)).length := by rw [List.length_append, List.length_append, List.length_take, List.length_drop, ← HLs.out.1, ← HLs.out.2.2.2.1]; have := HR4.out; omega
    have ev : i + yzn + (zn - j) = (zs.take i ++ (yzs ++ zs.drop j)).length := by rw [List.length_append, List.length_append, List.length_take, List.length_drop, ← HLs.out.2.2.1, ← HLs.out.2.2.2.2.2]; have := HR5.out; omega
    rw [show (Is zs).take i ++ Is yzs ++ (Is zs).drop j = Is (zs.take i ++ (yzs ++ zs.drop j)) by simp [Is, List.map_take, List.map_drop]] at V7
    rw [ek] at K7 ⊢
    rw [ev] at V7 ⊢
    exact ⟨⟨false, a34, c34, ks.take i ++ (yks ++ ks.drop j), ⟨none, 0, []⟩, a35, c35, zs.take i ++ (yzs ++ zs.drop j)⟩, rfl, by rw [HNd.out]; rfl, ⟨K7.2.2.mono (fun k _ hk => .inr (.inr (Nat.le_trans A4.out.size hk))), K7.2.1, K7.1, ⟨CQ.nil _ _ _, fun _ => rfl, fun p hp => (by cases hp)⟩, Nat.le_refl _, V7.2.2.mono (fun k _ hk => .inr (.inr (Nat.le_trans A5.out.size hk))), V7.2.1, V7.1⟩, A7⟩
end Go.Proofs.Ytplppnngmlljnaa

/- The reference: a node that may be, or the refusal; an inner node's first key. -/
namespace Go.Proofs.Ytplppnngmlljnaa
open Go.RowKit

/-- A node, or the refusal; memory may be shared. -/
def PQT (w : World) (Q : Nat → Prop) (R : N.Nd × Nat) (e : Ending) (w' : World) : Prop := ∃ z : NM, e = .returned (.tuple #[z.val, .int .i64 (R.2 : Int)]) ∧ Hid (z.nd = R.1 ∧ NQ w' Q z ∧ Adds w w')
/-- The same, the parts by name. -/
def PQTd (w : World) (Q : Nat → Prop) (n : N.Nd) (er : Int) (e : Ending) (w' : World) : Prop := ∃ (l : Bool) (ka : Option Addr) (kc : Nat) (ks : List (List UInt8)) (g : Pl) (ia : Option Addr) (ic : Nat) (is : List Int), e = .returned (.tuple #[.agg #[.bool l, .slice ka ks.length kc, .slice g.a g.l.length g.cap, .slice ia is.length ic], .int .i64 er]) ∧ Hid ((⟨l, ka, kc, ks, g, ia, ic, is⟩ : NM).nd = n ∧ NQ w' Q ⟨l, ka, kc, ks, g, ia, ic, is⟩ ∧ Adds w w')
theorem PQT.nd {f : Nat} {args : Array Value} {w : World} {Q : Nat → Prop} {R : N.Nd × Nat} {n : N.Nd} {er : Nat} (h : Calls Try.prog f args w (PQT w Q R)) (hR : R = (n, er)) : Calls Try.prog f args w (PQTd w Q n (er : Int)) := by
  subst hR
  refine h.mono ?_
  rintro e w' ⟨z, rfl, H⟩
  exact ⟨z.leaf, z.ka, z.kc, z.ks, z.v, z.ia, z.ic, z.is, rfl, H.out⟩
/-- A node, the parts by name; memory may be shared. -/
def PQNd (w : World) (Q : Nat → Prop) (n : N.Nd) (e : Ending) (w' : World) : Prop := ∃ (l : Bool) (ka : Option Addr) (kc : Nat) (ks : List (List UInt8)) (g : Pl) (ia : Option Addr) (ic : Nat) (is : List Int), e = .returned (.agg #[.bool l, .slice ka ks.length kc, .slice g.a g.l.length g.cap, .slice ia is.length ic]) ∧ Hid ((⟨l, ka, kc, ks, g, ia, ic, is⟩ : NM).nd = n ∧ NQ w' Q ⟨l, ka, kc, ks, g, ia, ic, is⟩ ∧ Adds w w')
theorem PQnode.nd {f : Nat} {args : Array Value} {w : World} {Q : Nat → Prop} {n : N.Nd} (h : Calls Try.prog f args w (PQnode w Q n)) : Calls Try.prog f args w (PQNd w Q n) := by
  refine h.mono ?_
  rintro e w' ⟨z, rfl, H⟩
  exact ⟨z.leaf, z.ka, z.kc, z.ks, z.v, z.ia, z.ic, z.is, rfl, H.out⟩
theorem ropen2 (w : World) (bx : Array Value) : ∃ N0 N1 w2, N0 = w.heap.size ∧ N1 = N0 + 1 ∧ w2 = (w.alloc (.cells bx 26)).alloc RZ ∧ Hid (Adds w w2) ∧ Hid (w2.heap[N0]? = some (.cells bx 26)) ∧ Hid (w2.heap[N1]? = some RZ) ∧ Hid (w.heap.size ≤ N1) := by
  refine ⟨_, _, _, rfl, rfl, rfl, ((Touch.refl _ w).alloc _).alloc _, box_adds (heap_alloc_new w _) ((Touch.refl _ _).alloc _), ?_, ?_⟩
  · show ((w.alloc (.cells bx 26)).alloc RZ).heap[w.heap.size + 1]? = some RZ
    rw [← show (w.alloc (.cells bx 26)).heap.size = w.heap.size + 1 by simp]
    exact heap_alloc_new _ _
  · show w.heap.size ≤ w.heap.size + 1
    omega
/-- The result's block is new: what was there before lies elsewhere. -/
theorem pq_old {w wE : World} {N1 : Nat} {z : NM} {n : N.Nd} {Q : Nat → Prop} (hz : z.nd = n) (ho : NQ w Q z) (hA : Adds w wE) (hge : w.heap.size ≤ N1) (cs' : Array Value) : z.nd = n ∧ NQ (wE.setRow N1 cs') (fun k => Q k ∨ w.heap.size ≤ k) z ∧ Adds w (wE.setRow N1 cs') :=
  ⟨hz, (((ho.mono (Q' := fun k => Q k ∧ k < w.heap.size) (fun k hk hq => ⟨hq, hk⟩)).adds hA).touch (touch_row wE N1 cs') (fun k hk c => by have := hk.2; omega)).mono (fun _ _ hk => .inl hk.1), hA.then (touch_row wE N1 cs') (fun j hj e => by omega)⟩
/-- The same, of a node that a call told since. -/
theorem pq_new {w w1 wE : World} {N1 : Nat} {z : NM} {n : N.Nd} {Q : Nat → Prop} (hz : z.nd = n) (ho : NQ wE (fun k => (Q k ∧ k < w.heap.size) ∨ w1.heap.size ≤ k) z) (hA : Adds w wE) (hge : w.heap.size ≤ N1) (hlt : N1 < w1.heap.size) (cs' : Array Value) : z.nd = n ∧ NQ (wE.setRow N1 cs') (fun k => Q k ∨ w.heap.size ≤ k) z ∧ Adds w (wE.setRow N1 cs') :=
  ⟨hz, (ho.touch (touch_row wE N1 cs') (fun k hk c => by rcases hk with hk | hk; · have := hk.2; omega
                                                         · omega)).mono (fun k _ hk => by rcases hk with hk | hk; · exact .inl hk.1
                                                                                          · exact .inr (by omega)), hA.then (touch_row wE N1 cs') (fun j hj e => by omega)⟩
theorem NQ.nil (w : World) (Q : Nat → Prop) : NQ w Q NM.none := ⟨CQ.nil _ _ _, fun _ => rfl, Nat.le_refl _, ⟨CQ.nil _ _ _, fun _ => rfl, fun p hp => (by cases hp)⟩, Nat.le_refl _, CQ.nil _ _ _, fun _ => rfl, Nat.le_refl _⟩
set_option maxRecDepth 100000 in
set_option maxHeartbeats 4000000 in
theorem rtold_any (x : NM) (w : World) {Q : Nat → Prop} (h : NQ w Q x) (hs : NS x) : Calls Try.prog 56 #[x.val] w (PQT w (fun k => Q k ∨ w.heap.size ≤ k) (N.told x.nd)) := by
  obtain ⟨l, ka, kc, ks, g, ia, ic, zs⟩ := x
  obtain ⟨r, hr⟩ : ∃ r, r = N.right (NM.nd ⟨l, ka, kc, ks, g, ia, ic, zs⟩) := ⟨_, rfl⟩
  have HX := hid h
  obtain ⟨N0, N1, w2, hN0, hN1, hw2, HA2, HB0, HB1, HL⟩ := ropen2 w #[.bool l, .slice ka ks.length kc, .slice g.a g.l.length g.cap, .slice ia zs.length ic]
  have HC := hid (show Calls Try.prog 16 #[.agg #[.bool l, .slice ka ks.length kc, .slice g.a g.l.length g.cap, .slice ia zs.length ic]] w2 (Adding (.bool r) w2) by rw [hr]; exact rright_any ⟨l, ka, kc, ks, g, ia, ic, zs⟩ w2 (h.adds HA2.out) hs)
  have HR := hid hr
  clear h hs hr
  show Calls Try.prog 56 #[.agg #[.bool l, .slice ka ks.length kc, .slice g.a g.l.length g.cap, .slice ia zs.length ic]] w _
  go_enter Try.func56, Try.ntmps56
  go_upto_region 1 with fail
  rw [← hw2, ← hN0, ← hN1]
  clear hw2 hN0 hN1
  cases r with
  | false =>
    have HE := hid (show N.told (NM.nd ⟨l, ka, kc, ks, g, ia, ic, zs⟩) = (N.nil, 22) by unfold N.told; rw [if_neg (by rw [← HR.out]; decide)])
    go_wp2_with (first
      | (refine wpList_load_row rfl 26 _ rfl N0 rfl 26 _ _ _ HB0.out Try.underlying26 rfl (infoR4 _ _ _ _) ?_)
      | (go_at_call 16; refine HC.out.mono ?_; rintro e w3 ⟨rfl, hA3⟩; have H3 := hid hA3; have HB3 := hid (box_adds HB1.out hA3); clear hA3)
      | (refine wpList_store_row rfl 26 _ _ rfl N1 #[.bool false, .slice .none 0 0, .slice .none 0 0, .slice .none 0 0] rfl rfl 26 _ HB3.out (infoR4 _ _ _ _) rfl (one4 _ _ _ _ _ _ _ _ _ _) ?_))
    refine bodyPost_ret (results_r2 rfl _ _ N1 _ rfl (setRow_heap w3 N1 _ _ 26 _ HB3.out) rfl) rfl ?_
    rw [HE.out]
    exact ⟨NM.none, rfl, pq_old rfl (NQ.nil w Q) (HA2.out.trans H3.out) HL.out _⟩
  | true =>
    have HE := hid (show N.told (NM.nd ⟨l, ka, kc, ks, g, ia, ic, zs⟩) = (NM.nd ⟨l, ka, kc, ks, g, ia, ic, zs⟩, 0) by unfold N.told; rw [if_pos HR.out.symm])
    go_wp2_with (first
      | (refine wpList_load_row rfl 26 _ rfl N0 rfl 26 _ _ _ (box_adds HB0.out H3.out) Try.underlying26 rfl (infoR4 _ _ _ _) ?_)
      | (refine wpList_load_row rfl 26 _ rfl N0 rfl 26 _ _ _ HB0.out Try.underlying26 rfl (infoR4 _ _ _ _) ?_)
      | (go_at_call 16; refine HC.out.mono ?_; rintro e w3 ⟨rfl, hA3⟩; have H3 := hid hA3; have HB3 := hid (box_adds HB1.out hA3); clear hA3)
      | (refine wpList_store_row rfl 26 _ _ rfl N1 #[.bool l, .slice ka ks.length kc, .slice g.a g.l.length g.cap, .slice ia zs.length ic] rfl rfl 26 _ HB3.out (infoR4 _ _ _ _) rfl (one4 _ _ _ _ _ _ _ _ _ _) ?_))
    refine bodyPost_ret (results_r2 rfl _ _ N1 _ rfl (setRow_heap w3 N1 _ _ 26 _ HB3.out) rfl) rfl ?_
    rw [HE.out]
    exact ⟨⟨l, ka, kc, ks, g, ia, ic, zs⟩, rfl, pq_old rfl HX.out (HA2.out.trans H3.out) HL.out _⟩
set_option maxRecDepth 100000 in
set_option maxHeartbeats 4000000 in
theorem rfirst_any (x : NM) (w : World) {Q : Nat → Prop} (h : NQ w Q x) (hs : NS x) : Calls Try.prog 59 #[x.val] w (PQnode w (fun k => Q k ∨ w.heap.size ≤ k) (N.first x.nd)) := by
  obtain ⟨l, ka, kc, ks, g, ia, ic, zs⟩ := x
  have HX := hid h
  have HS := hid hs
  obtain ⟨kn, hkn⟩ : ∃ k, k = ks.length := ⟨_, rfl⟩
  have hk9 : kn ≤ 1000 := by rw [hkn]; exact hs.k
  have hv : (NM.val ⟨l, ka, kc, ks, g, ia, ic, zs⟩) = .agg #[.bool l, .slice ka kn kc, .slice g.a g.l.length g.cap, .slice ia zs.length ic] := by rw [hkn]
  obtain ⟨N0, N1, w2, hN0, hN1, hw2, HA2, HB0, HB1, HL⟩ := ropen2 w #[.bool l, .slice ka kn kc, .slice g.a g.l.length g.cap, .slice ia zs.length ic]
  have HNe := hid (show N1 ≠ N0 ∧ w.heap.size ≤ N0 by omega)
  have HKn := hid hkn
  rw [hv]
  clear h hs hkn hv
  go_enter Try.func59, Try.ntmps59
  go_upto_region 1 with fail
  rw [← hw2, ← hN0, ← hN1]
  clear hw2 hN0 hN1
  obtain ⟨b0, b1, _, _⟩ := box_cells HB0.out
  cases l with
  | true =>
    have HE := hid (show N.first (NM.nd ⟨true, ka, kc, ks, g, ia, ic, zs⟩) = NM.nd ⟨true, ka, kc, ks, g, ia, ic, zs⟩ by unfold N.first; rw [if_neg (fun c => by cases c.1)])
    go_upto_region 2 with fail
    clear b0 b1
    go_wp2_with (first
      | (refine wpList_load_row rfl 26 _ rfl N0 rfl 26 _ _ _ HB0.out Try.underlying26 rfl (infoR4 _ _ _ _) ?_)
      | (refine wpList_store_row rfl 26 _ _ rfl N1 #[.bool true, .slice ka kn kc, .slice g.a g.l.length g.cap, .slice ia zs.length ic] rfl rfl 26 _ HB1.out (infoR4 _ _ _ _) rfl (one4 _ _ _ _ _ _ _ _ _ _) ?_))
    refine bodyPost_ret (results_r1 rfl _ _ N1 _ rfl (setRow_heap w2 N1 _ _ 26 _ HB1.out) rfl) rfl ?_
    rw [HE.out]
    exact ⟨⟨true, ka, kc, ks, g, ia, ic, zs⟩, by rw [HKn.out], pq_old rfl HX.out HA2.out HL.out _⟩
  | false =>
    by_cases h0 : kn = 0
    · have h0e : ((kn : Int) == 0) = true := by simp [h0]
      have HE := hid (show N.first (NM.nd ⟨false, ka, kc, ks, g, ia, ic, zs⟩) = NM.nd ⟨false, ka, kc, ks, g, ia, ic, zs⟩ by unfold N.first; rw [if_neg (fun c => by have : 0 < ks.length := c.2; rw [← HKn.out] at this; omega)])
      have H0 := hid h0
      clear h0
      go_upto_region 2 with fail
      clear b0 b1 h0e
      go_wp2_with (first
        | (refine wpList_load_row rfl 26 _ rfl N0 rfl 26 _ _ _ HB0.out Try.underlying26 rfl (infoR4 _ _ _ _) ?_)
        | (refine wpList_store_row rfl 26 _ _ rfl N1 #[.bool false, .slice ka kn kc, .slice g.a g.l.length g.cap, .slice ia zs.length ic] rfl rfl 26 _ HB1.out (infoR4 _ _ _ _) rfl (one4 _ _ _ _ _ _ _ _ _ _) ?_))
      refine bodyPost_ret (results_r1 rfl _ _ N1 _ rfl (setRow_heap w2 N1 _ _ 26 _ HB1.out) rfl) rfl ?_
      rw [HE.out]
      exact ⟨⟨false, ka, kc, ks, g, ia, ic, zs⟩, by rw [HKn.out], pq_old rfl HX.out HA2.out HL.out _⟩
    · have h0e : ((kn : Int) == 0) = false := by simp [h0]
      have hk1 : 1 ≤ kn := by omega
      have HE := hid (show N.first (NM.nd ⟨false, ka, kc, ks, g, ia, ic, zs⟩) = ⟨false, [] :: ks.tail, g.bs, zs⟩ by unfold N.first; rw [if_pos ⟨rfl, show 0 < ks.length by rw [← HKn.out]; omega⟩]; rfl)
      clear h0
      go_upto_region 3 with fail
      clear b0 h0e
      have hs1 := fun w' => run_sufVS ka kn kc 1 hk1 w'
      obtain ⟨W2, hW2⟩ : ∃ W, W = w2.alloc (.cells #[.string ⟨#[]⟩] 9) := ⟨_, rfl⟩
      obtain ⟨g2, hg2⟩ : ∃ g, g = w2.heap.size := ⟨_, rfl⟩
      have HL2 := hid (show W2.ownsRow w2.heap.size 9 1 (.slice (some ⟨g2, 0, none⟩) 1 1) 1 [.string ⟨#[]⟩] by
        rw [hW2, hg2]; exact World.ownsRow_lit (base := w2.heap.size) (e := 9) (size := 1) w2 #[.string ⟨#[]⟩] 1 (Nat.le_refl _) (by decide) rfl)
      have HA22 := hid (show Adds w2 W2 by rw [hW2]; exact (Touch.refl _ w2).alloc _)
      obtain ⟨_, p1, _, _⟩ := box_cells (box_adds HB0.out HA22.out)
      obtain ⟨i9, hi9, hz9, hs9, hb9⟩ := infoES
      have HInf := hid (And.intro hi9 (And.intro hz9 (And.intro hs9 hb9)))
      have HCq := hid (show CQ W2 Q (sufA ka kc 1) ((Ss ks).drop 1) from sufCQ (HX.out.keys.adds (HA2.out.trans HA22.out)) kc 1 (by rw [len_Ss]; exact HX.out.kr))
      have HNon := hid (show sufA ka kc 1 = none → kc - 1 = 0 from fun e => sufA_none HX.out.kn e)
      have hs2 : (Instr.sliceAt 22 (.slice ka kn kc) (some (.int .i64 1)) none none).run Try.prog W2 = .ok (.slice (sufA ka kc 1) (kn - 1) (kc - 1)) W2 := hs1 W2
      obtain ⟨sa, hsa⟩ : ∃ s, s = sufA ka kc 1 := ⟨_, rfl⟩
      rw [← hsa] at hs2 HCq HNon
      rw [hW2] at p1 hs2
      clear hi9 hz9 hs9 hb9 b1 hs1 hsa
      go_upto_region 4 with (refine wpList_plain rfl (fun K hK => ?_); rw [← hW2, ← hg2]; clear hW2 hg2; refine wp_append_list (w0 := w2) 22 9 i9 (.string ⟨#[]⟩) 16 Try.underlying22 HInf.out.1 HInf.out.2.1 HInf.out.2.2.1 HInf.out.2.2.2 rfl (.tmp 12) (.tmp 15) rfl w2.heap.size (.slice (some ⟨g2, 0, none⟩) 1 1) 1 [.string ⟨#[]⟩] rfl HL2.out HA22.out rfl sa (kn - 1) (kc - 1) ((Ss ks).drop 1) rfl (by rw [List.length_drop, len_Ss, HKn.out]) HCq.out HNon.out (fun u hu => one_Ss ks u (List.mem_of_mem_drop hu)) (by omega) (by unfold maxLen; omega) ?_; intro a6 c6 w4 r4 hA4; have R4 := hid r4; have A4 := hid hA4; clear r4 hA4; have HB4 := hid (box_adds HB0.out A4.out); obtain ⟨z0, z1, z2, z3⟩ := box_cells HB4.out; have zf := box_free HB4.out 1; refine hK _ _ ?_)
      have R4' := R4.out
      rw [show 1 + (kn - 1) = kn by omega] at R4'
      have R5 := hid R4'
      obtain ⟨w5, hw5⟩ : ∃ W, W = w4.setCell ⟨N0, 1, none⟩ (.slice a6 kn c6) := ⟨_, rfl⟩
      have HB4 := hid (box_adds HB0.out A4.out)
      have HP5 := hid (show w5.heap[N0]? = some (.cells #[.bool false, .slice a6 kn c6, .slice g.a g.l.length g.cap, .slice ia zs.length ic] 26 (0, 0)) ∧ Touch (fun j => j = N0) w4 w5 by rw [hw5]; exact ⟨(box_put (Touch.refl _ w4) HB4.out).1, (box_put (Touch.refl _ w4) HB4.out).2⟩)
      rw [← hw5]
      clear hw5
      have HB15 := hid (show w5.heap[N1]? = some RZ by
        have q := box_adds HB1.out A4.out
        rw [HP5.out.2.block N1 (Array.getElem?_eq_some_iff.1 q).1 HNe.out.1]; exact q)
      have A5 := hid (show Adds w w5 from (HA2.out.trans A4.out).then HP5.out.2 (fun j hj e => by have := HNe.out; omega))
      go_wp2_with (first
        | (refine wpList_load_row rfl 26 _ rfl N0 rfl 26 _ _ _ HP5.out.1 Try.underlying26 rfl (infoR4 _ _ _ _) ?_)
        | (refine wpList_store_row rfl 26 _ _ rfl N1 #[.bool false, .slice a6 kn c6, .slice g.a g.l.length g.cap, .slice ia zs.length ic] rfl rfl 26 _ HB15.out (infoR4 _ _ _ _) rfl (one4 _ _ _ _ _ _ _ _ _ _) ?_))
      refine bodyPost_ret (results_r1 rfl _ _ N1 _ rfl (setRow_heap w5 N1 _ _ 26 _ HB15.out) rfl) rfl ?_
      obtain ⟨w6, hw6⟩ : ∃ w6, w6 = w5.setRow N1 #[.bool false, .slice a6 kn c6, .slice g.a g.l.length g.cap, .slice ia zs.length ic] := ⟨_, rfl⟩
      rw [← hw6, HE.out]
      have hT6 : Touch (fun j => j = N1) w5 w6 := by rw [hw6]; exact touch_row w5 N1 _
      have A6 : Adds w w6 := A5.out.then hT6 (fun j hj e => by have := HL.out; omega)
      have K5 := row_touch R5.out HP5.out.2 (fun j hj c => row_ne R5.out HB4.out (by decide) hj c)
      have K6 := row_q (row_touch K5 hT6 (fun j hj c => row_ne K5 HB15.out (by decide) hj c))
      have ek : kn = ([] :: ks.tail : List (List UInt8)).length := by rw [List.length_cons, List.length_tail, ← HKn.out]; omega
      have ev : [Value.string ⟨#[]⟩] ++ (Ss ks).drop 1 = Ss ([] :: ks.tail) := by
        rw [List.drop_one, Ss, Ss, List.map_cons, List.map_tail]; rfl
      rw [ev, ek] at K6
      rw [ek]
      have q := HX.out.adds A6
      exact ⟨⟨false, a6, c6, [] :: ks.tail, g, ia, ic, zs⟩, rfl, rfl, ⟨K6.2.2.mono (fun k _ hk => .inr (Nat.le_trans HA2.out.size hk)), K6.2.1, K6.1, q.vals.mono (fun _ _ hk => .inl hk), q.vr, q.kids.mono (fun _ _ hk => .inl hk), q.inn, q.ir⟩, A6⟩
end Go.Proofs.Ytplppnngmlljnaa

/- The reference: a cell put in, or taken out. -/
namespace Go.Proofs.Ytplppnngmlljnaa
open Go.RowKit

theorem nq_one_q {w w3 : World} {key val : List UInt8} {kid : Int} {a : Option Addr} {vn cap : Nat} {Q : Nat → Prop} (hn : vn = val.length) (h0 : w.cell? ⟨w3.heap.size, 0, none⟩ = some (Str key)) (h1 : w.cell? ⟨w3.heap.size + 1, 0, none⟩ = some (.slice a vn cap)) (h2 : w.cell? ⟨w3.heap.size + 2, 0, none⟩ = some (.int .i64 kid)) (hA : PQ w Q ⟨a, val, cap⟩) :
    NQ w (fun k => Q k ∨ w3.heap.size ≤ k) ⟨false, some ⟨w3.heap.size, 0, none⟩, 1, [key], ⟨some ⟨w3.heap.size + 1, 0, none⟩, 1, [⟨a, val, cap⟩]⟩, some ⟨w3.heap.size + 2, 0, none⟩, 1, [kid]⟩ := by
  subst hn
  have one : ∀ {g : Nat} {u : Value}, w.cell? ⟨g, 0, none⟩ = some u → w3.heap.size ≤ g → CQ w (fun k => Q k ∨ w3.heap.size ≤ k) (some ⟨g, 0, none⟩) [u] := fun {g u} h hg j v hj => by
    match j, hj with
    | 0, hj =>
      obtain rfl : u = v := by simpa using hj
      exact ⟨g, 0, rfl, .inr hg, h⟩
  refine ⟨one h0 (Nat.le_refl _), fun e => (by cases e), by simp, ⟨one h1 (by omega), fun e => (by cases e), fun p hp => ?_⟩, by simp, one h2 (by omega), fun e => (by cases e), by simp⟩
  rw [List.mem_singleton.1 hp]
  exact hA.mono (fun _ _ hk => .inl hk)
set_option maxRecDepth 100000 in
set_option maxHeartbeats 8000000 in
theorem rinsert_any (x : NM) (i : Int) (key : List UInt8) (a : Option Addr) (val : List UInt8) (vn cap : Nat) (kid : Int) (w : World) {Q Q' : Nat → Prop} (hx : NQ w Q x) (hb : N.Bd 900 x.nd) (hvn : vn = val.length) (hval : PQ w Q' ⟨a, val, cap⟩) (hkl : key.length ≤ 1000) (hvl : vn ≤ 1000) :
    Calls Try.prog 26 #[x.val, .int .i64 i, .string ⟨key.toArray⟩, .slice a vn cap, .int .i64 kid] w (PQT w (fun k => (Q k ∨ Q' k) ∨ w.heap.size ≤ k) (N.insert x.nd i key val kid)) := by
  have sx := hb.ns (by decide)
  obtain ⟨N0, N1, w2, hN0, hN1, hw2, HA2, HB0, HB1, HL⟩ := ropen2 w #[.bool x.leaf, .slice x.ka x.ks.length x.kc, .slice x.v.a x.v.l.length x.v.cap, .slice x.ia x.is.length x.ic]
  obtain ⟨r, hr⟩ : ∃ r, r = N.right x.nd := ⟨_, rfl⟩
  have HC := hid (show Calls Try.prog 16 #[x.val] w2 (Adding (.bool r) w2) by rw [hr]; exact rright_any x w2 (hx.adds HA2.out) sx)
  have HR := hid hr
  have HX := hid hx
  have HSx := hid sx
  have HBd := hid hb
  have HVn := hid hvn
  have HVa := hid hval
  have HKl := hid hkl
  obtain ⟨kn, hkn⟩ : ∃ kn, kn = x.ks.length := ⟨_, rfl⟩
  have hk9 : kn ≤ 900 := by rw [hkn]; exact hb.k
  have HKn := hid hkn
  have hv : x.val = .agg #[.bool x.leaf, .slice x.ka kn x.kc, .slice x.v.a x.v.l.length x.v.cap, .slice x.ia x.is.length x.ic] := by rw [hkn]
  have HV := hid hv
  rw [hv] at HC ⊢
  rw [← hkn] at hw2 HB0
  clear hx sx hb hr hkn hv hvn hval hkl
  go_enter Try.func26, Try.ntmps26
  go_upto_region 1 with fail
  rw [← hw2, ← hN0, ← hN1]
  clear hw2 hN0 hN1
  obtain ⟨c0, c1, c2, c3⟩ := box_cells HB0.out
  cases r with
  | false =>
    have HE := hid (show N.insert x.nd i key val kid = (N.nil, 22) by unfold N.insert; rw [← HR.out]; rfl)
    go_upto_region 2 with (go_at_call 16; refine HC.out.mono ?_; rintro e w3 ⟨rfl, hA3⟩; have H3 := hid hA3; clear hA3)
    clear c0 c1 c2 c3
    have HB3 := hid (box_adds HB1.out H3.out)
    go_wp2_with (refine wpList_store_row rfl 26 _ _ rfl N1 #[.bool false, .slice .none 0 0, .slice .none 0 0, .slice .none 0 0] rfl rfl 26 _ HB3.out (infoR4 _ _ _ _) rfl (one4 _ _ _ _ _ _ _ _ _ _) ?_)
    refine bodyPost_ret (results_r2 rfl _ _ N1 _ rfl (setRow_heap w3 N1 _ _ 26 _ HB3.out) rfl) rfl ?_
    rw [HE.out]
    exact ⟨NM.none, rfl, pq_old rfl (NQ.nil w (fun k => Q k ∨ Q' k)) (HA2.out.trans H3.out) HL.out _⟩
  | true =>
    by_cases hin : i < 0 ∨ (kn : Int) < i
    · have HE := hid (show N.insert x.nd i key val kid = (N.nil, 40) by unfold N.insert; rw [← HR.out, if_neg (by decide), if_pos (by rw [show x.nd.keys.length = kn from HKn.out.symm]; exact hin)])
      by_cases h0 : i < 0
      · clear hin
        go_upto_region 4 with (go_at_call 16; refine HC.out.mono ?_; rintro e w3 ⟨rfl, hA3⟩; have H3 := hid hA3; clear hA3)
        clear c0 c1 c2 c3
        have HB3 := hid (box_adds HB1.out H3.out)
        go_wp2_with (refine wpList_store_row rfl 26 _ _ rfl N1 #[.bool false, .slice .none 0 0, .slice .none 0 0, .slice .none 0 0] rfl rfl 26 _ HB3.out (infoR4 _ _ _ _) rfl (one4 _ _ _ _ _ _ _ _ _ _) ?_)
        refine bodyPost_ret (results_r2 rfl _ _ N1 _ rfl (setRow_heap w3 N1 _ _ 26 _ HB3.out) rfl) rfl ?_
        rw [HE.out]
        exact ⟨NM.none, rfl, pq_old rfl (NQ.nil w (fun k => Q k ∨ Q' k)) (HA2.out.trans H3.out) HL.out _⟩
      · have h1 : (kn : Int) < i := hin.resolve_left h0
        clear hin
        go_upto_region 4 with (go_at_call 16; refine HC.out.mono ?_; rintro e w3 ⟨rfl, hA3⟩; have H3 := hid hA3; have q1 := (box_cells (box_adds HB0.out hA3)).2.1; clear hA3)
        clear c0 c1 c2 c3 q1
        have HB3 := hid (box_adds HB1.out H3.out)
        go_wp2_with (refine wpList_store_row rfl 26 _ _ rfl N1 #[.bool false, .slice .none 0 0, .slice .none 0 0, .slice .none 0 0] rfl rfl 26 _ HB3.out (infoR4 _ _ _ _) rfl (one4 _ _ _ _ _ _ _ _ _ _) ?_)
        refine bodyPost_ret (results_r2 rfl _ _ N1 _ rfl (setRow_heap w3 N1 _ _ 26 _ HB3.out) rfl) rfl ?_
        rw [HE.out]
        exact ⟨NM.none, rfl, pq_old rfl (NQ.nil w (fun k => Q k ∨ Q' k)) (HA2.out.trans H3.out) HL.out _⟩
    · obtain ⟨k, rfl⟩ : ∃ k : Nat, i = (k : Int) := ⟨i.toNat, by omega⟩
      have hlt : k ≤ kn := by omega
      have h0 : ¬ (k : Int) < 0 := by omega
      have h1 : ¬ (kn : Int) < (k : Int) := by omega
      obtain ⟨nd, hnd⟩ : ∃ nd, nd = N.change x.nd k k ⟨false, [key], [val], [kid]⟩ := ⟨_, rfl⟩
      have HE := hid (show N.insert x.nd (k : Int) key val kid = N.told nd by
        unfold N.insert
        rw [← HR.out, if_neg (by decide), if_neg (by rw [show x.nd.keys.length = kn from HKn.out.symm]; exact hin), Int.toNat_natCast, hnd])
      have HSz := hid (show w.heap.size ≤ w2.heap.size from HA2.out.size)
      have HCh := hid (fun (w3 : World) (hA : Adds w w3) (_ : w2.heap.size ≤ w3.heap.size) => show Calls Try.prog 57 #[.agg #[.bool x.leaf, .slice x.ka kn x.kc, .slice x.v.a x.v.l.length x.v.cap, .slice x.ia x.is.length x.ic], .int .i64 (k : Int), .int .i64 0, .agg #[.bool false, .slice (some ⟨w3.heap.size, 0, none⟩) 1 1, .slice (some ⟨w3.heap.size + 1, 0, none⟩) 1 1, .slice (some ⟨w3.heap.size + 2, 0, none⟩) 1 1]] (((w3.alloc (.cells #[.string ⟨key.toArray⟩] 9)).alloc (.cells #[.slice a vn cap] 30)).alloc (.cells #[.int .i64 kid] 3)) (PQNd _ (fun k => ((Q k ∨ Q' k) ∧ k < w.heap.size) ∨ w3.heap.size ≤ k) nd) by
        obtain ⟨q0, q1, q2⟩ := three_new w3 (.string ⟨key.toArray⟩) (.slice a vn cap) (.int .i64 kid) 9 30 3
        have hA' : Adds w (((w3.alloc (.cells #[.string ⟨key.toArray⟩] 9)).alloc (.cells #[.slice a vn cap] 30)).alloc (.cells #[.int .i64 kid] 3)) := ((hA.alloc _).alloc _).alloc _
        have hs3 : w3.heap.size ≤ (((w3.alloc (.cells #[.string ⟨key.toArray⟩] 9)).alloc (.cells #[.slice a vn cap] 30)).alloc (.cells #[.int .i64 kid] 3)).heap.size := ((((Touch.refl (fun _ => False) w3).alloc _).alloc _).alloc _).size
        have hy := nq_one_q HVn.out q0 q1 q2 ((HVa.out.mono (Q' := fun k => Q' k ∧ k < w.heap.size) (fun k hk hq => ⟨hq, hk⟩)).adds hA')
        have hxx := (HX.out.mono (Q' := fun k => Q k ∧ k < w.heap.size) (fun k hk hq => ⟨hq, hk⟩)).adds hA'
        have q := PQnode.nd (rchange_any x ⟨false, some ⟨w3.heap.size, 0, none⟩, 1, [key], ⟨some ⟨w3.heap.size + 1, 0, none⟩, 1, [⟨a, val, cap⟩]⟩, some ⟨w3.heap.size + 2, 0, none⟩, 1, [kid]⟩ k 0 _ hxx HSx.out hy
          ⟨by simp, by simp, by simp, fun b hb => (by rw [List.mem_singleton.1 hb]; exact HKl.out), fun b hb => (by rw [List.mem_singleton.1 hb, ← HVn.out]; exact hvl)⟩ (by rw [← HKn.out]; exact hlt) (right_len HR.out.symm).1 (right_len HR.out.symm).2)
        rw [hnd, ← HV.out]
        refine q.mono (fun e W' h => ?_)
        obtain ⟨l, ka, kc, ks, g, ia, ic, is, he, h1, h2, h3⟩ := h
        exact ⟨l, ka, kc, ks, g, ia, ic, is, he, h1, h2.mono (fun k _ hk => by
          rcases hk with hk | hk | hk
          · exact .inl ⟨.inl hk.1, hk.2⟩
          · rcases hk with hk | hk
            · exact .inl ⟨.inr hk.1, hk.2⟩
            · exact .inr hk
          · exact .inr (Nat.le_trans hs3 hk)), h3⟩)
      have HBn := hid (show N.Bd 1000 nd by
        rw [hnd]
        exact (HBd.out.change (m' := 1) (y := ⟨false, [key], [val], [kid]⟩) ⟨by simp, by simp, by simp, fun b hb => (by rw [List.mem_singleton.1 hb]; exact HKl.out), fun b hb => (by rw [List.mem_singleton.1 hb, ← HVn.out]; exact hvl)⟩ (Nat.le_refl k)).mono (by decide))
      clear hnd hin
      go_upto_region 5 with (go_at_call 16; refine HC.out.mono ?_; rintro e w3 ⟨rfl, hA3⟩; have H3 := hid hA3; obtain ⟨q0, q1, q2, q3⟩ := box_cells (box_adds HB0.out hA3); clear hA3)
      clear c0 c1 c2 c3
      have HN12 := hid (show N1 < w3.heap.size from (Array.getElem?_eq_some_iff.1 (box_adds HB1.out H3.out)).1)
      go_wp2_with (first
        | (go_at_call 57; refine (HCh.out w3 (HA2.out.trans H3.out) H3.out.size).mono ?_; rintro e w4 ⟨l4, ka4, kc4, ks4, g4, ia4, ic4, is4, rfl, H4⟩; have HA4 := hid ((((H3.out.alloc _).alloc _).alloc _).trans H4.out.2.2); have HTo := hid (PQT.nd (n := (N.told nd).1) (er := (N.told nd).2) (rtold_any ⟨l4, ka4, kc4, ks4, g4, ia4, ic4, is4⟩ w4 H4.out.2.1 (N.Bd.ns (m := 1000) (by rw [H4.out.1]; exact HBn.out) (by decide))) (by rw [H4.out.1])))
        | (go_at_call 56; refine HTo.out.mono ?_; rintro e w5 ⟨l5, ka5, kc5, ks5, g5, ia5, ic5, is5, rfl, H5⟩; have HB5 := hid (box_adds HB1.out (HA4.out.trans H5.out.2.2)))
        | (refine wpList_store_row rfl 26 _ _ rfl N1 #[.bool l5, .slice ka5 ks5.length kc5, .slice g5.a g5.l.length g5.cap, .slice ia5 is5.length ic5] rfl rfl 26 _ HB5.out (infoR4 _ _ _ _) rfl (one4 _ _ _ _ _ _ _ _ _ _) ?_))
      refine bodyPost_ret (results_r2 rfl _ _ N1 _ rfl (setRow_heap w5 N1 _ _ 26 _ HB5.out) rfl) rfl ?_
      rw [HE.out]
      refine ⟨⟨l5, ka5, kc5, ks5, g5, ia5, ic5, is5⟩, rfl, pq_new (w1 := w3) H5.out.1 (H5.out.2.1.mono (fun k _ hk => ?_)) ((HA2.out.trans HA4.out).trans H5.out.2.2) HL.out HN12.out _⟩
      rcases hk with hk | hk
      · exact hk
      · exact .inr (Nat.le_trans (by have q1 := (((Touch.refl (fun _ => False) w3).alloc (.cells #[.string ⟨key.toArray⟩] 9)).alloc (.cells #[.slice a vn cap] 30)).alloc (.cells #[.int .i64 kid] 3); exact Nat.le_trans q1.size H4.out.2.2.size) hk)
set_option maxRecDepth 100000 in
set_option maxHeartbeats 8000000 in
theorem rremove_any (x : NM) (i : Int) (w : World) {Q : Nat → Prop} (hx : NQ w Q x) (hb : N.Bd 900 x.nd) : Calls Try.prog 28 #[x.val, .int .i64 i] w (PQT w (fun k => Q k ∨ w.heap.size ≤ k) (N.remove x.nd i)) := by
  have sx := hb.ns (by decide)
  obtain ⟨N0, N1, w2, hN0, hN1, hw2, HA2, HB0, HB1, HL⟩ := ropen2 w #[.bool x.leaf, .slice x.ka x.ks.length x.kc, .slice x.v.a x.v.l.length x.v.cap, .slice x.ia x.is.length x.ic]
  obtain ⟨r, hr⟩ : ∃ r, r = N.right x.nd := ⟨_, rfl⟩
  have HC := hid (show Calls Try.prog 16 #[x.val] w2 (Adding (.bool r) w2) by rw [hr]; exact rright_any x w2 (hx.adds HA2.out) sx)
  have HR := hid hr
  have HX := hid hx
  have HSx := hid sx
  have HBd := hid hb
  obtain ⟨kn, hkn⟩ : ∃ kn, kn = x.ks.length := ⟨_, rfl⟩
  have hk9 : kn ≤ 900 := by rw [hkn]; exact hb.k
  have HKn := hid hkn
  have hv : x.val = .agg #[.bool x.leaf, .slice x.ka kn x.kc, .slice x.v.a x.v.l.length x.v.cap, .slice x.ia x.is.length x.ic] := by rw [hkn]
  have HV := hid hv
  rw [hv] at HC ⊢
  rw [← hkn] at hw2 HB0
  clear hx sx hb hr hkn hv
  go_enter Try.func28, Try.ntmps28
  go_upto_region 1 with fail
  rw [← hw2, ← hN0, ← hN1]
  clear hw2 hN0 hN1
  obtain ⟨c0, c1, c2, c3⟩ := box_cells HB0.out
  cases r with
  | false =>
    have HE := hid (show N.remove x.nd i = (N.nil, 22) by unfold N.remove; rw [← HR.out]; rfl)
    go_upto_region 2 with (go_at_call 16; refine HC.out.mono ?_; rintro e w3 ⟨rfl, hA3⟩; have H3 := hid hA3; clear hA3)
    clear c0 c1 c2 c3
    have HB3 := hid (box_adds HB1.out H3.out)
    go_wp2_with (refine wpList_store_row rfl 26 _ _ rfl N1 #[.bool false, .slice .none 0 0, .slice .none 0 0, .slice .none 0 0] rfl rfl 26 _ HB3.out (infoR4 _ _ _ _) rfl (one4 _ _ _ _ _ _ _ _ _ _) ?_)
    refine bodyPost_ret (results_r2 rfl _ _ N1 _ rfl (setRow_heap w3 N1 _ _ 26 _ HB3.out) rfl) rfl ?_
    rw [HE.out]
    exact ⟨NM.none, rfl, pq_old rfl (NQ.nil w Q) (HA2.out.trans H3.out) HL.out _⟩
  | true =>
    by_cases hin : i < 0 ∨ (kn : Int) ≤ i
    · have HE := hid (show N.remove x.nd i = (N.nil, 40) by unfold N.remove; rw [← HR.out, if_neg (by decide), if_pos (by rw [show x.nd.keys.length = kn from HKn.out.symm]; exact hin)])
      by_cases h0 : i < 0
      · clear hin
        go_upto_region 4 with (go_at_call 16; refine HC.out.mono ?_; rintro e w3 ⟨rfl, hA3⟩; have H3 := hid hA3; clear hA3)
        clear c0 c1 c2 c3
        have HB3 := hid (box_adds HB1.out H3.out)
        go_wp2_with (refine wpList_store_row rfl 26 _ _ rfl N1 #[.bool false, .slice .none 0 0, .slice .none 0 0, .slice .none 0 0] rfl rfl 26 _ HB3.out (infoR4 _ _ _ _) rfl (one4 _ _ _ _ _ _ _ _ _ _) ?_)
        refine bodyPost_ret (results_r2 rfl _ _ N1 _ rfl (setRow_heap w3 N1 _ _ 26 _ HB3.out) rfl) rfl ?_
        rw [HE.out]
        exact ⟨NM.none, rfl, pq_old rfl (NQ.nil w Q) (HA2.out.trans H3.out) HL.out _⟩
      · have h1 : (kn : Int) ≤ i := hin.resolve_left h0
        clear hin
        go_upto_region 4 with (go_at_call 16; refine HC.out.mono ?_; rintro e w3 ⟨rfl, hA3⟩; have H3 := hid hA3; have q1 := (box_cells (box_adds HB0.out hA3)).2.1; clear hA3)
        clear c0 c1 c2 c3 q1
        have HB3 := hid (box_adds HB1.out H3.out)
        go_wp2_with (refine wpList_store_row rfl 26 _ _ rfl N1 #[.bool false, .slice .none 0 0, .slice .none 0 0, .slice .none 0 0] rfl rfl 26 _ HB3.out (infoR4 _ _ _ _) rfl (one4 _ _ _ _ _ _ _ _ _ _) ?_)
        refine bodyPost_ret (results_r2 rfl _ _ N1 _ rfl (setRow_heap w3 N1 _ _ 26 _ HB3.out) rfl) rfl ?_
        rw [HE.out]
        exact ⟨NM.none, rfl, pq_old rfl (NQ.nil w Q) (HA2.out.trans H3.out) HL.out _⟩
    · obtain ⟨k, rfl⟩ : ∃ k : Nat, i = (k : Int) := ⟨i.toNat, by omega⟩
      have hlt : k < kn := by omega
      have h0 : ¬ (k : Int) < 0 := by omega
      have h1 : ¬ (kn : Int) ≤ (k : Int) := by omega
      obtain ⟨ndc, hndc⟩ : ∃ nd, nd = N.change x.nd k (k + 1) N.nil := ⟨_, rfl⟩
      obtain ⟨nd, hnd⟩ : ∃ nd, nd = N.first ndc := ⟨_, rfl⟩
      have HE := hid (show N.remove x.nd (k : Int) = N.told nd by
        unfold N.remove
        rw [← HR.out, if_neg (by decide), if_neg (by rw [show x.nd.keys.length = kn from HKn.out.symm]; exact hin), Int.toNat_natCast, hnd, hndc]; rfl)
      have HCh := hid (fun (w3 : World) (hA : Adds w w3) => show Calls Try.prog 57 #[.agg #[.bool x.leaf, .slice x.ka kn x.kc, .slice x.v.a x.v.l.length x.v.cap, .slice x.ia x.is.length x.ic], .int .i64 (k : Int), .int .i64 1, .agg #[.bool false, .slice none 0 0, .slice none 0 0, .slice none 0 0]] w3 (PQNd w3 (fun j => (Q j ∧ j < w.heap.size) ∨ w3.heap.size ≤ j) ndc) by
        have hxx := (HX.out.mono (Q' := fun k => Q k ∧ k < w.heap.size) (fun k hk hq => ⟨hq, hk⟩)).adds hA
        have q := PQnode.nd (rchange_any x NM.none k 1 w3 hxx HSx.out (NQ.nil w3 (fun _ => False)) NS.none (by rw [← HKn.out]; omega) (right_len HR.out.symm).1 (right_len HR.out.symm).2)
        rw [hndc, ← HV.out]
        refine q.mono (fun e W' h => ?_)
        obtain ⟨l, ka, kc, ks, g, ia, ic, is, he, h1, h2, h3⟩ := h
        exact ⟨l, ka, kc, ks, g, ia, ic, is, he, h1, h2.mono (fun k _ hk => hk.elim .inl (fun hk => hk.elim False.elim .inr)), h3⟩)
      have HBc := hid (show N.Bd 1000 ndc by
        rw [hndc]
        exact (HBd.out.change N.Bd.nil (Nat.le_succ k)).mono (by decide))
      have HBn := hid (show N.Bd 1000 nd by rw [hnd]; exact HBc.out.first)
      have HNd := hid hnd
      clear hnd hndc hin
      go_upto_region 5 with (go_at_call 16; refine HC.out.mono ?_; rintro e w3 ⟨rfl, hA3⟩; have H3 := hid hA3; obtain ⟨q0, q1, q2, q3⟩ := box_cells (box_adds HB0.out hA3); clear hA3)
      clear c0 c1 c2 c3
      have HN12 := hid (show N1 < w3.heap.size from (Array.getElem?_eq_some_iff.1 (box_adds HB1.out H3.out)).1)
      go_wp2_with (first
        | (go_at_call 57; refine (HCh.out w3 (HA2.out.trans H3.out)).mono ?_; rintro e w4 ⟨l4, ka4, kc4, ks4, g4, ia4, ic4, is4, rfl, H4⟩; have HFi := hid (show Calls Try.prog 59 _ w4 (PQNd w4 _ nd) by have q := PQnode.nd (rfirst_any ⟨l4, ka4, kc4, ks4, g4, ia4, ic4, is4⟩ w4 H4.out.2.1 (N.Bd.ns (m := 1000) (by rw [H4.out.1]; exact HBc.out) (by decide))); rw [H4.out.1, ← HNd.out] at q; exact q))
        | (go_at_call 59; refine HFi.out.mono ?_; rintro e w6 ⟨l6, ka6, kc6, ks6, g6, ia6, ic6, is6, rfl, H6⟩; have HTo := hid (PQT.nd (n := (N.told nd).1) (er := (N.told nd).2) (rtold_any ⟨l6, ka6, kc6, ks6, g6, ia6, ic6, is6⟩ w6 H6.out.2.1 (N.Bd.ns (m := 1000) (by rw [H6.out.1]; exact HBn.out) (by decide))) (by rw [H6.out.1])))
        | (go_at_call 56; refine HTo.out.mono ?_; rintro e w5 ⟨l5, ka5, kc5, ks5, g5, ia5, ic5, is5, rfl, H5⟩; have HB5 := hid (box_adds HB1.out (H3.out.trans (H4.out.2.2.trans (H6.out.2.2.trans H5.out.2.2)))))
        | (refine wpList_store_row rfl 26 _ _ rfl N1 #[.bool l5, .slice ka5 ks5.length kc5, .slice g5.a g5.l.length g5.cap, .slice ia5 is5.length ic5] rfl rfl 26 _ HB5.out (infoR4 _ _ _ _) rfl (one4 _ _ _ _ _ _ _ _ _ _) ?_))
      refine bodyPost_ret (results_r2 rfl _ _ N1 _ rfl (setRow_heap w5 N1 _ _ 26 _ HB5.out) rfl) rfl ?_
      rw [HE.out]
      refine ⟨⟨l5, ka5, kc5, ks5, g5, ia5, ic5, is5⟩, rfl, pq_new (w1 := w3) H5.out.1 (H5.out.2.1.mono (fun k _ hk => ?_)) (HA2.out.trans (H3.out.trans (H4.out.2.2.trans (H6.out.2.2.trans H5.out.2.2)))) HL.out HN12.out _⟩
      rcases hk with (hk | hk) | hk
      · exact hk
      · exact .inr (Nat.le_trans H4.out.2.2.size hk)
      · exact .inr (Nat.le_trans (H4.out.2.2.trans H6.out.2.2).size hk)
end Go.Proofs.Ytplppnngmlljnaa

/- NodeFinds. -/
namespace Go.Proofs.Ytplppnngmlljnaa
open Go.RowKit

theorem great_200 {x : NM} (h : N.great x.nd = false) : N.Bd 200 x.nd := by
  obtain ⟨h1, h2, h3, h4, h5⟩ := N.great_is h
  exact ⟨h1, h2, h3, fun b hb => by have := h4 b hb; omega, fun b hb => by have := h5 b hb; omega⟩
end Go.Proofs.Ytplppnngmlljnaa
