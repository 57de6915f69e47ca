/- Texts put together: DClone, DRead, DRegion, DWrite. -/
import Derived.Test.YtjlennpoaefllaaGreatDoorQ13
import Derived.Laws.Externs
import Derived.Test.YtjlennpoaefllaaGreatDoorQ14
import Derived.OrdersHeld
import Derived.RegionTactic
import Derived.Deep.MidRow
import Derived.Deep.RegionLaw
import Derived.Maps.AppendAt
/- maps.Clone and slices.Clone, as the disk calls them. -/
namespace Go.Proofs.YtjlennpoaefllaaGreatDoor
open Go.RowKit

section
variable {P : Program} (w : World)
end

/-- What slices.Clone tells: the bytes in new memory. -/
def dPClone (w : World) (bs : List UInt8) (e : Ending) (w' : World) : Prop := ∃ v, e = .returned v ∧ w'.ownsRow w.heap.size 5 1 v bs.length (S bs) ∧ v ≠ .slice none 0 0 ∧ Adds w w'

set_option maxRecDepth 100000 in
set_option maxHeartbeats 1000000 in
theorem slicesClone_any (g off cap : Nat) (bs : List UInt8) (w : World) (hn : 0 < bs.length) (hm : bs.length ≤ 4096) (hr : w.rangeAt g off (S bs)) :
    Calls Tryz.prog 140 #[.slice (some ⟨g, off, none⟩) bs.length cap] w (dPClone w bs) := by
  have hq := fun w => Lib.run_eql_slice_nil (P := Tryz.prog) w 43 5 (some ⟨g, off, none⟩) bs.length cap 0 0 Tryz.underlying43
  obtain ⟨i0, hi, hz0, hz1, hz2⟩ := info5all
  have HR : Hid (w.rangeAt g off (S bs)) := hr
  clear hr
  have h1 : (S bs).length = bs.length * 1 := by rw [length_S, Nat.mul_one]
  have h2 : ∀ j u, (S bs)[j]? = some u → (w.alloc (.cells #[] 5)).cell? ((⟨g, off, none⟩ : Addr).add j) = some u := by
    intro j u hu
    rw [Addr.add_mid]
    exact World.rangeAt_alloc HR.out _ j u hu
  have h3 : 0 + bs.length ≤ maxLen := by unfold maxLen; omega
  have h4 : (0 + bs.length) * 1 ≤ 140737488355328 := by omega
  have h5 : w.heap.size ≤ (w.alloc (.cells #[] 5)).heap.size := by simp
  have H1 := hid (h1)
  have H2 := hid (h2)
  have H3 := hid (h3)
  have H4 := hid (h4)
  have H5 := hid (h5)
  clear h1 h2 h3 h4 h5
  go_enter Tryz.func140, Tryz.ntmps140
  go_wp2_with (at_builtin; refine wpList_append_own _ rfl _ _ 43 rfl w.heap.size 5 i0 (.int .u8 0) 1 1 Tryz.underlying43 hi hz0 hz1 hz2 rfl (by decide) (.slice (some ⟨w.heap.size, 0, none⟩) 0 0) 0 [] rfl (World.ownsRow_lit w #[] 0 (Nat.le_refl _) (by decide) rfl) ⟨g, off, none⟩ bs.length cap (S bs) rfl H1.out H2.out (one_S bs) H3.out H4.out H5.out ?_; intro v' w3 hown' hgrow3 hnil3)
  go_ret
  refine ⟨v', rfl, ?_, ?_, ?_⟩
  · simpa using hown'
  · intro e; exact absurd (hnil3.1 e).1 (by simp)
  · exact Touch.grown (T := fun _ => False) ((Touch.refl _ w).alloc _) hgrow3 (fun k hk hlt => by simp [Value.ownBlock] at hk; omega)

end Go.Proofs.YtjlennpoaefllaaGreatDoor

/- Read. -/
namespace Go.Proofs.YtjlennpoaefllaaGreatDoor
open Go.RowKit

set_option maxRecDepth 100000 in
set_option maxHeartbeats 400000 in
theorem read_off (p : Nat) (n i : Int) (w : World) (c0 : w.cell? ⟨p, 0, none⟩ = some (.int .i64 n)) (c4 : w.cell? ⟨p, 4, none⟩ = some (.int .i64 0)) (hn : 0 < n) (hi : 0 ≤ i ∧ i < n) :
    Calls Tryz.prog 153 #[.pointer (some ⟨p, 0, none⟩), .int .i64 i] w fun e w' => e = .returned (.tuple #[.slice none 0 0, .int .i64 10]) ∧ w' = w := by
  have d1 : decide (0 < n) = true := by simpa using hn
  have d2 : (decide (0 ≤ i) && decide (i < n)) = true := by simp [hi.1, hi.2]
  have m1 := made_any p n w c0
  have m2 := hasSector_any p n i w c0
  have m3 := off_any p 0 w c4
  rw [d1] at m1; rw [d2] at m2
  have M1 := hid (m1)
  have M2 := hid (m2)
  have M3 := hid (m3)
  clear m1 m2 m3 d1 d2 hi hn c0 c4
  go_enter Tryz.func153, Tryz.ntmps153
  go_wp2_with (first
    | (go_at_call 76; refine M1.out.mono ?_; rintro e w' ⟨rfl, rfl⟩)
    | (go_at_call 143; refine M2.out.mono ?_; rintro e w' ⟨rfl, rfl⟩)
    | (go_at_call 87; refine M3.out.mono ?_; rintro e w' ⟨rfl, rfl⟩))
  go_ret2
  exact ⟨rfl, rfl⟩

set_option maxRecDepth 100000 in
theorem slicesClone_256 (g cap : Nat) (bs : List UInt8) (w : World) (h : bs.length = 256) (hr : w.rangeAt g 0 (S bs)) : Calls Tryz.prog 140 #[.slice (some ⟨g, 0, none⟩) 256 cap] w (dPClone w bs) := by
  have := slicesClone_any g 0 cap bs w (by omega) (by omega) hr
  rw [h] at this; exact this

set_option maxRecDepth 100000 in
theorem rangeAt_row {w : World} {g : Nat} {cs : List Value} {t : TypeId} {fr : Nat × Nat} (h : w.heap[g]? = some (.cells cs.toArray t fr)) : w.rangeAt g 0 cs := by
  intro j v hv
  rw [cellOf h, Nat.zero_add]; simpa using hv

/-- What Read tells: the bytes, in new memory. -/
def dPRead (w : World) (bs : List UInt8) (e : Ending) (w' : World) : Prop := ∃ v, e = .returned (.tuple #[v, .int .i64 0]) ∧ w'.ownsRow w.heap.size 5 1 v 256 (S bs) ∧ v ≠ .slice none 0 0 ∧ Adds w w'

set_option maxRecDepth 100000 in
theorem hasOf_len {H : Int → List UInt8} (i : Int) (hH : ∀ k, (H k).length = 256) : ∀ (W : List (Int × List UInt8)), (∀ x ∈ W, x.2.length = 256) → (hasOf H W i).length = 256 := by
  have key : ∀ (W : List (Int × List UInt8)) (z : List UInt8), z.length = 256 → (∀ x ∈ W, x.2.length = 256) → (W.foldl (fun acc x => if x.1 = i then x.2 else acc) z).length = 256 := by
    intro W
    induction W with
    | nil => intro z hz _; exact hz
    | cons x W ih =>
      intro z hz h
      rw [List.foldl_cons]
      refine ih _ ?_ (fun y hy => h y (List.mem_cons_of_mem _ hy))
      split
      · exact h x List.mem_cons_self
      · exact hz
  intro W hW
  exact key W _ (hH i) hW

set_option maxRecDepth 100000 in
set_option maxHeartbeats 1000000 in
theorem read_ok (B p hb : Nat) (wv : Value) (D : dSt) (i : Int) (w : World) (hd : IsDisk w B p hb wv D) (hl : D.W.length ≤ 1000) (hi : 0 ≤ i ∧ i < D.size) (hon : D.left ≠ 0) :
    Calls Tryz.prog 153 #[.pointer (some ⟨p, 0, none⟩), .int .i64 i] w (dPRead w (hasOf D.H D.W i)) := by
  have hzv := zero74
  have d1 : decide (0 < D.size) = true := by have := hi.1; have := hi.2; simp; omega
  have d2 : (decide (0 ≤ i) && decide (i < D.size)) = true := by simp [hi.1, hi.2]
  have d3 : (D.left == 0) = false := by simp [hon]
  have m1 := made_any p D.size w (cellOf hd.box 0)
  have m2 := hasSector_any p D.size i w (cellOf hd.box 0)
  have m3 := off_any p D.left w (cellOf hd.box 4)
  rw [d1] at m1; rw [d2] at m2; rw [d3] at m3
  have M1 := hid (m1)
  have M2 := hid (m2)
  have M3 := hid (m3)
  have M4 := hid (has_any B p hb wv D i w hd hl)
  have hlen := hasOf_len i hd.good D.W hd.goodW
  generalize hasOf D.H D.W i = bs at *
  have hi74 : Hid ((Tryz.prog.info? 186).map (·.size) = some (S bs).toArray.size) := show _ = _ by rw [info74, List.size_toArray, length_S, hlen]
  have ho74 : Hid ((S zeros).toArray.size = (S bs).toArray.size) := show _ = _ by rw [List.size_toArray, length_S, length_zeros, List.size_toArray, length_S, hlen]
  have HL : Hid (bs.length = 256) := hlen
  clear m1 m2 m3 d1 d2 d3 hi hon hd hlen
  go_enter Tryz.func153, Tryz.ntmps153
  go_wp2_with (first
    | (go_at_call 76; refine M1.out.mono ?_; rintro e w ⟨rfl, rfl⟩)
    | (go_at_call 143; refine M2.out.mono ?_; rintro e w ⟨rfl, rfl⟩)
    | (go_at_call 87; refine M3.out.mono ?_; rintro e w ⟨rfl, rfl⟩)
    | (go_at_call 169; refine M4.out.mono ?_; rintro e w1 ⟨rfl, hA1⟩)
    | (refine wpList_store_row rfl 186 _ _ rfl w1.heap.size (S bs).toArray rfl rfl 186 (S zeros).toArray (heap_alloc_new w1 _) hi74.out ho74.out (all_oneCell_toArray (one_S _)) ?_)
    | (go_at_call 140; refine (slicesClone_256 w1.heap.size 256 bs _ HL.out (rangeAt_row (setRow_heap _ w1.heap.size _ _ 186 (0, 0) (heap_alloc_new w1 _)))).mono ?_; rintro e w3 ⟨v, rfl, h1, h2, h3⟩))
  go_ret2
  have hA : Adds w ((w1.alloc (.cells (S zeros).toArray 186)).setRow w1.heap.size (S bs).toArray) := (hA1.alloc _).setRow (fun h => absurd hA1.size (by omega)) _
  refine ⟨v, rfl, ?_, h2, hA.trans h3⟩
  rw [HL.out] at h1
  obtain ⟨q1, q2⟩ := h1
  refine ⟨q1, ?_⟩
  rcases q2 with q2 | ⟨g, cap, cur, q2, q3, q4⟩
  · exact .inl q2
  · exact .inr ⟨g, cap, cur, q2, Nat.le_trans hA.size q3, q4⟩

end Go.Proofs.YtjlennpoaefllaaGreatDoor

/- A region that draws its order, walked under a condition on the world that is asked only while something is still to come. -/
namespace Go.Proofs.YtjlennpoaefllaaGreatDoor

section
variable {P : Program} {ops : Array Oper} {Q : Exit → Act → World → Prop} {md : Region.Mode} {S : World → Prop} {X : Nat}

/-- Operation j waits for operation i. -/
def waitsFor (md : Region.Mode) (ops : Array Oper) (j i : Nat) : Bool :=
  match ops[j]? with | some o => o.after.any fun e => Region.binds md e && e.on == i | none => false

/-- Whatever order is picked from here on; S holds behind each operation but number X. -/
def wpAnyE (P : Program) (md : Region.Mode) (ops : Array Oper) (Q : Exit → Act → World → Prop) (S : World → Prop) (X : Nat) : Nat → Array Bool → Act → World → Prop
  | 0, listed, a, w => Region.ready md ops listed = [] ∧ Q .normal a w
  | fuel + 1, listed, a, w =>
    (Region.ready md ops listed = [] → Q .normal a w) ∧
    ∀ i ∈ Region.ready md ops listed, wpOp P ops Q i (fun a' w' => (i ≠ X → S w') ∧ wpAnyE P md ops Q S X fuel (listed.setIfInBounds i true) a' w') a w

set_option maxRecDepth 100000 in
theorem wpAny_of_E : ∀ (fuel : Nat) (listed : Array Bool) (a : Act) (w : World), wpAnyE P md ops Q S X fuel listed a w → wpAny P md ops Q fuel listed a w := by
  intro fuel
  induction fuel with
  | zero => exact fun _ _ _ h => h
  | succ n ih => exact fun _ _ _ h => ⟨h.1, fun i hi => wpOp_mono (fun a' w' q => ih _ a' w' q.2) (h.2 i hi)⟩

set_option maxRecDepth 100000 in
theorem E_first {i : Nat} {oi : Oper} {v : Value} (hi : ops[i]? = some oi) (hsel : ∀ (j : Nat) (o : Oper) cs b, ops[j]? = some o → o.op ≠ .select cs b)
    (hQ : ∀ c a w, Q (.panic c) (a.put oi.dst v) w → Q (.panic c) a w) (hX : (decide (ops.size ≤ X) || waitsFor md ops X i) = true) (fuel : Nat) :
    ∀ (listed : Array Bool) (a : Act) (w : World),
      (∀ j oj, ops[j]? = some oj → j ≠ i → listed.getD j true = false → (∀ e ∈ oj.after, Region.binds md e = true → e.on ≠ i) → oi.apart ops oj = true) →
      i ∈ Region.ready md ops listed → YieldsIf P ops S oi v a → S w →
      wpAnyE P md ops Q S X fuel (listed.setIfInBounds i true) (a.put oi.dst v) w → wpAnyE P md ops Q S X (fuel + 1) listed a w := by
  induction fuel with
  | zero =>
    intro listed a w _ hr hy hS H
    refine ⟨fun h => (by rw [h] at hr; cases hr), fun j hj => ?_⟩
    by_cases e : j = i
    · subst e; exact hy.wpOp hi hS ⟨fun _ => hS, H⟩
    · have q := ready_mono hj e
      rw [H.1] at q; cases q
  | succ fuel ih =>
    intro listed a w hfree hr hy hS H
    refine ⟨fun h => (by rw [h] at hr; cases hr), fun j hj => ?_⟩
    by_cases e : j = i
    · subst e; exact hy.wpOp hi hS ⟨fun _ => hS, H⟩
    · have q := H.2 j (ready_mono hj e)
      obtain ⟨hun, oj, hoj, hall⟩ := mem_ready.1 hj
      have hnot : ∀ x ∈ oj.after, Region.binds md x = true → x.on ≠ i := fun x hx hb hxi => by
        have q1 := hall x hx hb
        have q0 := (mem_ready.1 hr).1
        rw [hxi] at q1
        rcases Nat.lt_or_ge i listed.size with c | c
        · simp [c] at q0 q1; rw [q0] at q1; cases q1
        · simp [Array.getElem?_eq_none c] at q1
      have q2 := wpOp_putIf hoj (hfree j oj hoj e hun hnot) (fun cs b => hsel i oi cs b hi) (fun cs b => hsel j oj cs b hoj) hQ hy q
      have hlast : j ≠ X := fun c => by
        subst c
        have hjl : ¬ ops.size ≤ j := Nat.not_le.2 (Array.getElem?_eq_some_iff.1 hoj).1
        simp only [waitsFor, hoj, Array.any_eq_true, Bool.and_eq_true, beq_iff_eq, Bool.or_eq_true, decide_eq_true_eq, hjl, false_or] at hX
        obtain ⟨k, hk, c1, c2⟩ := hX
        exact absurd c2 (hnot _ (Array.getElem_mem hk) c1)
      have hfree' : ∀ k ok, ops[k]? = some ok → k ≠ i → (listed.setIfInBounds j true).getD k true = false →
          (∀ x ∈ ok.after, Region.binds md x = true → x.on ≠ i) → oi.apart ops ok = true := fun k ok hk hki hu hn => by
        refine hfree k ok hk hki ?_ hn
        by_cases c : j = k
        · subst c; exact hun
        · rw [getD_set_ne true c] at hu; exact hu
      refine wpOp_mono (fun a' w' q3 => ⟨fun _ => q3.2.1 hlast, ih (listed.setIfInBounds j true) a' w' hfree' (ready_mono hr (Ne.symm e)) q3.1 (q3.2.1 hlast) ?_⟩) q2
      rw [Array.setIfInBounds_comm _ _ e]
      exact q3.2.2

/-- Number i is taken first. -/
theorem E_take {i : Nat} {oi : Oper} {v : Value} {fuel : Nat} {listed : Array Bool} {a : Act} {w : World} (hi : ops[i]? = some oi)
    (hs : Region.noSelect ops = true) (hf : Region.free md ops listed i = true) (hr : (Region.ready md ops listed).contains i = true)
    (hX : (decide (ops.size ≤ X) || waitsFor md ops X i) = true) (hQ : ∀ c a w, Q (.panic c) (a.put oi.dst v) w → Q (.panic c) a w) (hy : YieldsIf P ops S oi v a) (hS : S w)
    (h : wpAnyE P md ops Q S X fuel (listed.setIfInBounds i true) (a.put oi.dst v) w) : wpAnyE P md ops Q S X (fuel + 1) listed a w :=
  E_first hi (Region.noSelect_spec hs) hQ hX fuel listed a w (Region.free_spec hi hf) (by simpa using hr) hy hS h

/-- The same, the place where its value goes written out. -/
theorem E_put {i : Nat} {oi : Oper} (d : Nat) {v : Value} {fuel : Nat} {listed : Array Bool} {a : Act} {w : World} (hi : ops[i]? = some oi) (hd : oi.dst = some d)
    (hs : Region.noSelect ops = true) (hf : Region.free md ops listed i = true) (hr : (Region.ready md ops listed).contains i = true)
    (hX : (decide (ops.size ≤ X) || waitsFor md ops X i) = true) (hQ : ∀ c a w, Q (.panic c) (a.put oi.dst v) w → Q (.panic c) a w) (hy : YieldsIf P ops S oi v a) (hS : S w)
    (h : wpAnyE P md ops Q S X fuel (listed.setIfInBounds i true) (a.put (some d) v) w) : wpAnyE P md ops Q S X (fuel + 1) listed a w :=
  E_take hi hs hf hr hX hQ hy hS (by rw [hd]; exact h)

set_option maxRecDepth 100000 in
/-- One alone may come up. -/
theorem E_one {i : Nat} {o : Oper} {fuel : Nat} {listed : Array Bool} {a : Act} {w : World} (hr : Region.ready md ops listed = [i]) (ho : ops[i]? = some o)
    (h : ∀ K' : Act → World → Prop, (∀ a w, (i ≠ X → S w) → wpAnyE P md ops Q S X fuel (listed.setIfInBounds i true) a w → K' a w) → if Region.wanted o (yielded ops a.tmps) = true then Oper.wp P o a w K' Q else K' (a.put o.dst undef) w) :
    wpAnyE P md ops Q S X (fuel + 1) listed a w := by
  refine ⟨fun c => (by rw [hr] at c; cases c), fun j hj => ?_⟩
  rw [hr] at hj
  obtain rfl := List.mem_singleton.1 hj
  exact wpOp_step ho (fun K' hK => h K' (fun a w h1 h2 => hK a w ⟨h1, h2⟩))

set_option maxRecDepth 100000 in
/-- The same, the place where its value goes written out. -/
theorem E_do {i : Nat} {o : Oper} (d : Option Nat) {fuel : Nat} {listed : Array Bool} {a : Act} {w : World} (hr : Region.ready md ops listed = [i]) (ho : ops[i]? = some o) (hd : o.dst = d) (hg : o.guard = none)
    (h : ∀ K' : Act → World → Prop, (∀ v w, (i ≠ X → S w) → wpAnyE P md ops Q S X fuel (listed.setIfInBounds i true) (a.put d v) w → K' (a.put o.dst v) w) → Oper.wp P o a w K' Q) :
    wpAnyE P md ops Q S X (fuel + 1) listed a w := by
  refine E_one hr ho (fun K' hK => ?_)
  rw [if_pos (by simp [Region.wanted, hg])]
  exact h K' (fun v w h1 h2 => hK _ _ h1 (by rw [hd]; exact h2))

theorem E_done {listed : Array Bool} {a : Act} {w : World} (hr : Region.ready md ops listed = []) (h : Q .normal a w) : ∀ fuel, wpAnyE P md ops Q S X fuel listed a w
  | 0 => ⟨hr, h⟩
  | _ + 1 => ⟨fun _ => h, by rw [hr]; simp⟩

/-- The beginning. -/
theorem E_begin {id : Nat} {a : Act} {w : World} (hm : P.follows .mixedOrders = true) (h : wpAnyE P .any ops Q S X ops.size (Array.replicate ops.size false) a w.drew) : (Code.region id ops true).wp P Q a w :=
  wp_region_any hm (wpAny_of_E _ _ _ _ h)
end
end Go.Proofs.YtjlennpoaefllaaGreatDoor

/- Write. -/
namespace Go.Proofs.YtjlennpoaefllaaGreatDoor
open Go.RowKit

set_option maxRecDepth 100000 in
theorem wp_append_own_at {P : Program} {w : World} {o : Oper} {a : Act} {K : Act → World → Prop} {Q : Exit → Act → World → Prop} (s x : Operand) (t : TypeId)
    (ho : o.op = .call { callee := .builtin .append, args := #[s, x], argTypes := #[t, t] })
    (base : Nat) (e : TypeId) (i : TypeInfo) (z : Value) (size bytes : Nat) (ht : P.underlying t = some (.slice e)) (hi : P.info? e = some i) (hz : i.zero = some z)
    (hsize : i.size = size) (hby : i.bytes = bytes) (hzs : z.cells.size = size) (hsz : 0 < size)
    (v : Value) (n : Nat) (xs : List Value) (hs : a.eval s = v) (hown : w.ownsRow base e size v n xs)
    (ad : Addr) (m c : Nat) (news : List Value) (hx : a.eval x = .slice (some ad) m c) (hl : news.length = m * size) (hnews : ∀ j u, news[j]? = some u → w.cell? (ad.add j) = some u) (h1 : ∀ u ∈ news, u.oneCell' = true)
    (h63 : n + m ≤ maxLen) (hbytes : (n + m) * bytes ≤ 140737488355328) (hbase : base ≤ w.heap.size)
    (h : ∀ v' w', w'.ownsRow base e size v' (n + m) (xs ++ news) → w.grownBy w' v.ownBlock → (v' = .slice none 0 0 ↔ v = .slice none 0 0 ∧ m = 0) → (v'.ownBlock = v.ownBlock ∨ v'.ownBlock = some w.heap.size) → K (a.put o.dst v') w') : o.wp P a w K Q := by
  obtain ⟨v', w', hr, h2, h3, h4, h5⟩ := run_append_own_at (P := P) w base t o.type e i z size bytes ht hi hz hsize hby hzs hsz v n xs hown ad m c news hl hnews h1 h63 hbytes hbase
  unfold Oper.wp execOp
  simp only [ho, resolve, invoke, builtin, Sem.run_bind, Sem.run_pure, Result.andThen_ok, List.map_toArray, List.map_cons, List.map_nil, hs, hx, hr]
  exact h v' w' h2 h3 h4 h5
set_option maxRecDepth 100000 in
theorem wp_buildSlice {P : Program} {o : Oper} {a : Act} {w w' : World} {K : Act → World → Prop} {Q : Exit → Act → World → Prop} {v u : Value} (t : TypeId) (n k : Nat) (x : Operand) (ho : o.op = .buildSlice t n #[(k, x)]) (hx : a.eval x = u)
    (hrun : (Instr.buildSlice t n #[(k, u)]).run P w = .ok v w') (h : K (a.put o.dst v) w') : o.wp P a w K Q := by
  unfold Oper.wp execOp
  simp only [ho, Sem.run_bind, List.map_toArray, List.map_cons, List.map_nil, hx, hrun, Result.andThen_ok]
  exact h

end Go.Proofs.YtjlennpoaefllaaGreatDoor
