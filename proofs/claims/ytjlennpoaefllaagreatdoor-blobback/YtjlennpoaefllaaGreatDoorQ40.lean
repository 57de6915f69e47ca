/- Texts put together: KBc, KStp, KStp2, KBd, KSn. -/
import Derived.Test.YtjlennpoaefllaaGreatDoorQ39
import Derived.Deep.RegionLaw
/- Some blobs in a law's memory, once no more come. -/
namespace Go.Proofs.YtjlennpoaefllaaGreatDoor
open Go.RowKit
/-- Strings that lie in a block that is nobody's. -/
def SgX (X : List (Nat × Obj)) (v : Value) (ss : List (List UInt8)) : Prop := ∃ a cap, v = .slice a ss.length cap ∧ ∀ i (hi : i < ss.length), ∃ b o cs fr, a = some ⟨b, o, none⟩ ∧ (b, Obj.cells cs 9 fr) ∈ X ∧ cs[o + i]? = some (Str ss[i])
set_option maxRecDepth 100000 in
theorem SgX.more {X Y : List (Nat × Obj)} {v : Value} {ss : List (List UInt8)} (h : SgX X v ss) (hY : ∀ x ∈ X, x ∈ Y) : SgX Y v ss := by
  obtain ⟨a, cap, e, hg⟩ := h
  exact ⟨a, cap, e, fun i hi => by obtain ⟨b, o, cs, fr, q1, q2, q3⟩ := hg i hi; exact ⟨b, o, cs, fr, q1, hY _ q2, q3⟩⟩
set_option maxRecDepth 100000 in
theorem AgX.moreB {X Y : List (Nat × Obj)} {v : Value} {zs : List Int} (h : AgX X v zs) (hY : ∀ x ∈ X, x ∈ Y) : AgX Y v zs := by
  obtain ⟨a, cap, e, hg⟩ := h
  exact ⟨a, cap, e, fun i hi => by obtain ⟨b, o, cs, fr, q1, q2, q3⟩ := hg i hi; exact ⟨b, o, cs, fr, q1, hY _ q2, q3⟩⟩
set_option maxRecDepth 100000 in
theorem Sr.sg {w0 w : World} {X : List (Nat × Obj)} {p dp : Nat} {s : F.Po} {D : dSt} {n k : Nat} {v u : Value} {zs : List Int} {ss : List (List UInt8)} (h : Sr w0 w X p dp s D n k v zs u ss) : AgX (rowBk w v ++ (rowBk w u ++ X)) v zs ∧ SgX (rowBk w v ++ (rowBk w u ++ X)) u ss := by
  refine ⟨h.ns.ag, ?_⟩
  rcases h.rowB.2 with ⟨e, h0⟩ | ⟨g, cap, cur, e, hb, hg, h1, h2, h3, h4⟩
  · rw [e, List.eq_nil_of_length_eq_zero h0]
    exact ⟨none, 0, rfl, fun i hi => by cases hi⟩
  · refine ⟨_, cap, e, fun i hi => ⟨g, 0, cur, (0, 0), rfl, List.mem_append_right _ (List.mem_append_left _ (mem_rowBk.2 ⟨by rw [e]; rfl, hg⟩)), ?_⟩⟩
    rw [Nat.zero_add, ← Array.getElem?_toList]
    have h5 : (Ss ss)[i]? = some (Str ss[i]) := by unfold Ss; rw [List.getElem?_map, List.getElem?_eq_getElem hi]; rfl
    rw [← h4, List.getElem?_take] at h5
    split at h5
    · exact h5
    · cases h5
/-- Blobs over a space; all else that is held is nobody's. -/
def Lb (w0 w : World) (Z : List (Nat × Obj)) (p dp : Nat) (D : dSt) (n c : Nat) (f : Nat → Bool) (B : List (List Nat × List UInt8)) : Prop := ∃ s, LpX w0 w Z p dp s D n 0 ∧ K.Bk c f s B
section
variable {w0 w w' : World} {Z : List (Nat × Obj)} {p dp sp : Nat} {D : dSt} {n n' c : Nat} {v u : Value} {f : Nat → Bool} {B : List (List Nat × List UInt8)}
set_option maxRecDepth 100000 in
theorem Bb.lb {X : List (Nat × Obj)} (h : Bb w0 w X p dp D n c v u f B) : ∃ Z, Lb w0 w Z p dp D n c f B ∧ (∀ x ∈ X, x ∈ Z) ∧ AgX Z v (firsts B) ∧ SgX Z u (bodies B) := by
  obtain ⟨s, h1, h2⟩ := h
  exact ⟨_, ⟨s, h1.lpx, h2⟩, fun x hx => h1.mem hx, h1.sg.1, h1.sg.2⟩
set_option maxRecDepth 100000 in
theorem Lb.le (h : Lb w0 w Z p dp D n c f B) (hn : n ≤ n') : Lb w0 w Z p dp D n' c f B := by
  obtain ⟨s, h1, h2⟩ := h
  exact ⟨s, h1.le hn, h2⟩
set_option maxRecDepth 100000 in
theorem Lb.adds (h : Lb w0 w Z p dp D n c f B) (hA : Adds w w') : Lb w0 w' Z p dp D n c f B := by
  obtain ⟨s, h1, h2⟩ := h
  exact ⟨s, h1.add hA, h2⟩
set_option maxRecDepth 100000 in
theorem Lb.base (h : Lb w0 w Z p dp D n c f B) : Adds w0 w := by
  obtain ⟨s, h1, _⟩ := h
  exact h1.e.adds
set_option maxRecDepth 100000 in
theorem Lb.more (h : Lb w0 w Z p dp D n c f B) (hA : Adds w w') (g : Nat) (o : Obj) (hg : w'.heap[g]? = some o) (hn : w.heap.size ≤ g) : Lb w0 w' ((g, o) :: Z) p dp D n c f B := by
  obtain ⟨s, h1, h2⟩ := h
  exact ⟨s, h1.more hA g o hg hn, h2⟩
set_option maxRecDepth 100000 in
theorem Lb.at (h : Lb w0 w Z p dp D n c f B) {x : Nat × Obj} (hx : x ∈ Z) : w.heap[x.1]? = some x.2 := by
  obtain ⟨s, h1, _⟩ := h
  exact h1.at x hx
set_option maxRecDepth 100000 in
theorem lb_get (h : Lb w0 w Z p dp D n c f B) (hX : (sp, SBox p) ∈ Z) (hn : n + 20 ≤ 1000000) {ns : List Nat} {b : List UInt8} (hm : (ns, b) ∈ B) :
    Calls Tryz.prog 25 #[Ptr sp, .int .i64 ((K.ci ns).getD 0 0)] w (fun e w' => ∃ a cap Z', e = .returned (.tuple #[.slice a b.length cap, .int .i64 0]) ∧ Hid (Lb w0 w' Z' p dp D (n + 20) c f B ∧ (∀ x ∈ Z, x ∈ Z') ∧ BgX Z' (.slice a b.length cap) b)) := by
  obtain ⟨s, h1, h2⟩ := h
  have q := xget_any h1 hX hn (by omega) ((K.ci ns).getD 0 0)
  obtain ⟨s', e1, e2⟩ := h2.read hm D
  rw [e1] at q
  refine q.mono ?_
  rintro e w' ⟨x, Z', he, H⟩
  have hb := H.out.2.2
  obtain ⟨a, cap, hx, _⟩ := hb.get H.out.1
  have hx' : x = .slice a b.length cap := hx
  subst hx'
  exact ⟨a, cap, Z', he, ⟨s', H.out.1, e2⟩, H.out.2.1, hb⟩
set_option maxRecDepth 100000 in
theorem lb_chain (h : Lb w0 w Z p dp D n c f B) (hX : (sp, SBox p) ∈ Z) (hn : n + 20 ≤ 1000000) {ns : List Nat} {b : List UInt8} (hm : (ns, b) ∈ B) :
    Calls Tryz.prog 26 #[Ptr sp, .int .i64 ((K.ci ns).getD 0 0)] w (fun e w' => ∃ a cap Z', e = .returned (.tuple #[.slice a (K.pages b.length) cap, .int .i64 0]) ∧ Hid (Lb w0 w' Z' p dp D (n + 20) c f B ∧ (∀ x ∈ Z, x ∈ Z') ∧ AgX Z' (.slice a (K.pages b.length) cap) (K.ci ns))) := by
  obtain ⟨s, h1, h2⟩ := h
  have q := xchain_any h1 hX hn (by omega) ((K.ci ns).getD 0 0)
  have hl := (h2.laid _ hm).len
  obtain ⟨s', e1, e2⟩ := h2.read hm D
  rw [e1] at q
  refine q.mono ?_
  rintro e w' ⟨x, Z', he, H⟩
  have hb : AgX Z' x (K.ci ns) := H.out.2.2
  have hb2 := hb
  obtain ⟨a, cap, hx, _⟩ := hb2
  rw [K.ci_len, hl] at hx
  subst hx
  exact ⟨a, cap, Z', he, ⟨s', H.out.1, e2⟩, H.out.2.1, hb⟩
end
end Go.Proofs.YtjlennpoaefllaaGreatDoor

/- Appends to rows of one's own as steps of a region that draws its order. -/
namespace Go.Proofs.YtjlennpoaefllaaGreatDoor
open Go.RowKit
set_option maxRecDepth 100000 in
theorem step_ki {ops : Array Oper} {o : Oper} {a : Act} {w : World} {K : Act → World → Prop} {Q : Exit → Act → World → Prop} {E : Prop} (hg : o.guard = none) (s x : Operand)
    (hop : o.op = Op.call { callee := Callee.builtin Builtin.append, args := #[s, x], argTypes := #[64, 64] }) (B : Nat) (v : Value) (n : Nat) (xs : List Value) (hs : a.eval s = v) (hown : w.ownsRow B 3 1 v n xs)
    (g : Nat) (z : Int) (hx : a.eval x = .slice (some ⟨g, 0, none⟩) 1 1) (hc : w.cell? ⟨g, 0, none⟩ = some (.int .i64 z)) (hlen : n ≤ 10000000) (hB : B ≤ w.heap.size)
    (hK : ∀ v' w', w'.ownsRow B 3 1 v' (n + 1) (xs ++ [.int .i64 z]) → Touch (fun j => v.ownBlock = some j) w w' → (∀ j, v'.ownBlock = some j → v.ownBlock = some j ∨ w.heap.size ≤ j) → K (a.put o.dst v') w') :
    if Region.wanted o (yielded ops a.tmps) = true then Oper.wp Tryz.prog o a w K Q else E := by
  have hw : Region.wanted o (yielded ops a.tmps) = true := by simp [Region.wanted, hg]
  rw [if_pos hw]
  obtain ⟨i0, hi, hz0, hz1, hz2⟩ := info3
  obtain ⟨v', w', hrun, r1, r2, _, r4⟩ := run_append_own_at (P := Tryz.prog) w B 64 o.type 3 i0 (.int .i64 0) 1 8 Tryz.underlying64 hi hz0 hz1 hz2 rfl (by decide) v n xs hown ⟨g, 0, none⟩ 1 1 [.int .i64 z] rfl (fun j u hj => by
    match j, hj with
    | 0, hj => obtain rfl := Option.some.inj hj; exact hc) (fun u hu => by rw [List.mem_singleton.1 hu]; rfl) (by unfold maxLen; omega) (by omega) hB
  unfold Oper.wp
  simp [execOp, hop, resolve, invoke, builtin, hs, hx, hrun, Result.andThen]
  refine hK v' w' r1 (grown_touch r2) (fun j hj => ?_)
  rcases r4 with c | c
  · rw [c] at hj; exact .inl hj
  · rw [c] at hj; cases hj; exact .inr (Nat.le_refl _)
set_option maxRecDepth 100000 in
theorem step_ks {ops : Array Oper} {o : Oper} {a : Act} {w : World} {K : Act → World → Prop} {Q : Exit → Act → World → Prop} {E : Prop} (hg : o.guard = none) (s x : Operand)
    (hop : o.op = Op.call { callee := Callee.builtin Builtin.append, args := #[s, x], argTypes := #[69, 69] }) (B : Nat) (v : Value) (n : Nat) (xs : List Value) (hs : a.eval s = v) (hown : w.ownsRow B 9 1 v n xs)
    (g : Nat) (bs : List UInt8) (hx : a.eval x = .slice (some ⟨g, 0, none⟩) 1 1) (hc : w.cell? ⟨g, 0, none⟩ = some (Str bs)) (hlen : n ≤ 10000000) (hB : B ≤ w.heap.size)
    (hK : ∀ v' w', w'.ownsRow B 9 1 v' (n + 1) (xs ++ [Str bs]) → Touch (fun j => v.ownBlock = some j) w w' → (∀ j, v'.ownBlock = some j → v.ownBlock = some j ∨ w.heap.size ≤ j) → K (a.put o.dst v') w') :
    if Region.wanted o (yielded ops a.tmps) = true then Oper.wp Tryz.prog o a w K Q else E := by
  have hw : Region.wanted o (yielded ops a.tmps) = true := by simp [Region.wanted, hg]
  rw [if_pos hw]
  obtain ⟨i0, hi, hz0, hz1, hz2⟩ := info9all
  obtain ⟨v', w', hrun, r1, r2, _, r4⟩ := run_append_own_at (P := Tryz.prog) w B 69 o.type 9 i0 (Str []) 1 16 Tryz.underlying69 hi hz0 hz1 hz2 rfl (by decide) v n xs hown ⟨g, 0, none⟩ 1 1 [Str bs] rfl (fun j u hj => by
    match j, hj with
    | 0, hj => obtain rfl := Option.some.inj hj; exact hc) (fun u hu => by rw [List.mem_singleton.1 hu]; rfl) (by unfold maxLen; omega) (by omega) hB
  unfold Oper.wp
  simp [execOp, hop, resolve, invoke, builtin, hs, hx, hrun, Result.andThen]
  refine hK v' w' r1 (grown_touch r2) (fun j hj => ?_)
  rcases r4 with c | c
  · rw [c] at hj; exact .inl hj
  · rw [c] at hj; cases hj; exact .inr (Nat.le_refl _)
end Go.Proofs.YtjlennpoaefllaaGreatDoor

/- Appends as steps of a region that draws, told of both rows. -/
namespace Go.Proofs.YtjlennpoaefllaaGreatDoor
open Go.RowKit
theorem adds_drew (w : World) : Adds w w.drew := (Touch.refl _ w).drew
set_option maxRecDepth 100000 in
theorem c_new (W : World) (v : Value) (t : TypeId) (n : Nat) (hn : n = W.heap.size) : (W.alloc (.cells #[v] t)).cell? ⟨n, 0, none⟩ = some v := by
  subst hn
  rw [cellOf (heap_alloc_new W _)]
  rfl
theorem c_old (W : World) (v : Value) (t : TypeId) (o : Obj) (n : Nat) (hn : n = W.heap.size) : ((W.alloc (.cells #[v] t)).alloc o).cell? ⟨n, 0, none⟩ = some v :=
  below_adds ((Touch.refl _ (W.alloc (.cells #[v] t))).alloc o) (c_new W v t n hn)
theorem c_dr {W : World} {a : Addr} {v : Value} (h : W.cell? a = some v) : W.drew.cell? a = some v := h
set_option maxRecDepth 100000 in
theorem c_touch {r : Option Nat} {W W' : World} {n : Nat} {v : Value} (hT : Touch (fun j => r = some j) W W') (hne : r ≠ some n) (hc : W.cell? ⟨n, 0, none⟩ = some v) : W'.cell? ⟨n, 0, none⟩ = some v := by
  rw [World.cell?_of_block (w := W) (hT.block n (World.block_lt_of_cell? W _ hc) hne)]
  exact hc
section
variable {w0 W : World} {X : List (Nat × Obj)} {p dp : Nat} {s : F.Po} {D : dSt} {n k : Nat} {v u : Value} {zs : List Int} {bs : List (List UInt8)}
set_option maxRecDepth 100000 in
theorem Sr.body (h : Sr w0 W X p dp s D n k v zs u bs) {g : Nat} {b : List UInt8} (hB : Bx X g b) : At W (some ⟨g, 0, none⟩) b := by
  obtain ⟨cs, fr, hm, hcs⟩ := hB
  intro j c hj
  exact ⟨g, 0, rfl, by rw [cellOf (h.lpx.at _ (h.mem hm)), Nat.zero_add]; exact hcs j c hj⟩
set_option maxRecDepth 100000 in
theorem Sr.conv (h : Sr w0 W X p dp s D n k v zs u bs) {g L : Nat} {b : List UInt8} (hB : Bx X g b) (hL : b.length = L) : (convert 43 9 (.slice (some ⟨g, 0, none⟩) L L)).run Tryz.prog W = .ok (.string ⟨b.toArray⟩) W := by
  have q := conv_at W (some ⟨g, 0, none⟩) b L (h.body hB)
  rw [hL] at q
  exact q
set_option maxRecDepth 100000 in
/-- Both rows lie below. -/
theorem Sr.low (h : Sr w0 W X p dp s D n k v zs u bs) (m : Nat) (hm : W.heap.size ≤ m) : v.ownBlock ≠ some m ∧ u.ownBlock ≠ some m := by
  refine ⟨fun e => ?_, fun e => ?_⟩
  · obtain ⟨y, hy, e3⟩ := row_in h.rowN e
    have := (Array.getElem?_eq_some_iff.1 (h.lpx.at y (List.mem_append_left _ hy))).1
    omega
  · obtain ⟨y, hy, e3⟩ := row_in h.rowB e
    have := (Array.getElem?_eq_some_iff.1 (h.lpx.at y (List.mem_append_right _ (List.mem_append_left _ hy)))).1
    omega
variable {ops : Array Oper} {o : Oper} {a : Act} {K : Act → World → Prop} {Q : Exit → Act → World → Prop} {E : Prop}
theorem step_kiS (h : Sr w0 W X p dp s D n k v zs u bs) (hg : o.guard = none) (x y : Operand) (hop : o.op = Op.call { callee := Callee.builtin Builtin.append, args := #[x, y], argTypes := #[64, 64] }) (hs : a.eval x = v)
    (g : Nat) (z : Int) (hx : a.eval y = .slice (some ⟨g, 0, none⟩) 1 1) (hc : W.cell? ⟨g, 0, none⟩ = some (.int .i64 z)) (hlen : zs.length ≤ 10000000)
    (hK : ∀ v' w', Sr w0 w' X p dp s D n k v' (zs ++ [z]) u bs → Touch (fun j => v.ownBlock = some j) W w' → K (a.put o.dst v') w') :
    if Region.wanted o (yielded ops a.tmps) = true then Oper.wp Tryz.prog o a W K Q else E :=
  step_ki hg x y hop w0.heap.size v zs.length (I zs) hs h.rowN g z hx hc hlen h.lpx.e.adds.size (fun v' w' h1 h2 h3 => hK v' w' (h.num rfl h1 h2 h3) h2)
theorem step_ksS (h : Sr w0 W X p dp s D n k v zs u bs) (hg : o.guard = none) (x y : Operand) (hop : o.op = Op.call { callee := Callee.builtin Builtin.append, args := #[x, y], argTypes := #[69, 69] }) (hs : a.eval x = u)
    (g : Nat) (b : List UInt8) (hx : a.eval y = .slice (some ⟨g, 0, none⟩) 1 1) (hc : W.cell? ⟨g, 0, none⟩ = some (Str b)) (hlen : bs.length ≤ 10000000)
    (hK : ∀ v' w', Sr w0 w' X p dp s D n k v zs v' (bs ++ [b]) → Touch (fun j => u.ownBlock = some j) W w' → K (a.put o.dst v') w') :
    if Region.wanted o (yielded ops a.tmps) = true then Oper.wp Tryz.prog o a W K Q else E :=
  step_ks hg x y hop w0.heap.size u bs.length (Ss bs) hs h.rowB g b hx hc hlen h.lpx.e.adds.size (fun v' w' h1 h2 h3 => hK v' w' (h.str (cs := [b]) (c := 1) rfl rfl h1 h2 h3) h2)
end
end Go.Proofs.YtjlennpoaefllaaGreatDoor

/- Blobs that lie there, whether their pages are taken or not: behind a Free. -/
namespace Go.Proofs.YtjlennpoaefllaaGreatDoor
open Go.RowKit
namespace K
set_option maxRecDepth 100000 in
/-- One is freed: what lay there lies there still. -/
theorem Bk.free2 {c : Nat} {f : Nat → Bool} {s : F.Po} {B : List (List Nat × List UInt8)} {ns : List Nat} {b : List UInt8} (h : Bk c f s B) (hm : (ns, b) ∈ B) (D : dSt) : ∃ s', K.freeB D s ((ci ns).getD 0 0) = (0, s') ∧ Sp c (minus f ns) s' ∧ (∀ x ∈ B, Laid c s' x.1 x.2) ∧ cntT c (minus f ns) + pages b.length = cntT c f := by
  have hL := h.laid _ hm
  obtain ⟨s1, e1, e2⟩ := h.read hm D
  obtain ⟨s2, q1, q2, q3, q4⟩ := e2.sp.freeN D ns f s1 hL.nd (fun n hn => ⟨(hL.is n hn).1, (hL.is n hn).2, h.tk _ hm n hn⟩)
  refine ⟨s2, ?_, q2, fun x hx => (e2.laid x hx).keep (fun n hn => q3 _ ?_), by rw [← hL.len]; exact q4⟩
  · show (if (K.readB D s ((ci ns).getD 0 0)).2.2.1 = 0 then K.freeN D (K.readB D s ((ci ns).getD 0 0)).1 (K.readB D s ((ci ns).getD 0 0)).2.2.2 else _) = _
    rw [e1, if_pos rfl]
    exact q1
  · have := ((h.laid x hx).is n hn).1
    omega
end K
/-- Blobs that lie over a space; all else that is held is nobody's. -/
def Ld (w0 w : World) (Z : List (Nat × Obj)) (p dp : Nat) (D : dSt) (n c : Nat) (f : Nat → Bool) (B : List (List Nat × List UInt8)) : Prop := ∃ s, LpX w0 w Z p dp s D n 0 ∧ K.Sp c f s ∧ ∀ x ∈ B, K.Laid c s x.1 x.2
section
variable {w0 w w' : World} {Z : List (Nat × Obj)} {p dp sp : Nat} {D : dSt} {n n' c : Nat} {v u : Value} {f : Nat → Bool} {B : List (List Nat × List UInt8)}
set_option maxRecDepth 100000 in
theorem Ld.le (h : Ld w0 w Z p dp D n c f B) (hn : n ≤ n') : Ld w0 w Z p dp D n' c f B := by
  obtain ⟨s, h1, h2⟩ := h
  exact ⟨s, h1.le hn, h2⟩
set_option maxRecDepth 100000 in
theorem Ld.adds (h : Ld w0 w Z p dp D n c f B) (hA : Adds w w') : Ld w0 w' Z p dp D n c f B := by
  obtain ⟨s, h1, h2⟩ := h
  exact ⟨s, h1.add hA, h2⟩
set_option maxRecDepth 100000 in
theorem Ld.base (h : Ld w0 w Z p dp D n c f B) : Adds w0 w := by
  obtain ⟨s, h1, _⟩ := h
  exact h1.e.adds
set_option maxRecDepth 100000 in
theorem Ld.at (h : Ld w0 w Z p dp D n c f B) {x : Nat × Obj} (hx : x ∈ Z) : w.heap[x.1]? = some x.2 := by
  obtain ⟨s, h1, _⟩ := h
  exact h1.at x hx
set_option maxRecDepth 100000 in
theorem Ld.fewer (h : Ld w0 w Z p dp D n c f B) {Y : List (Nat × Obj)} (hY : ∀ y ∈ Y, y ∈ Z) : Ld w0 w Y p dp D n c f B := by
  obtain ⟨s, h1, h2⟩ := h
  exact ⟨s, h1.fewer hY, h2⟩
set_option maxRecDepth 100000 in
theorem Lb.fewer (h : Lb w0 w Z p dp D n c f B) {Y : List (Nat × Obj)} (hY : ∀ y ∈ Y, y ∈ Z) : Lb w0 w Y p dp D n c f B := by
  obtain ⟨s, h1, h2⟩ := h
  exact ⟨s, h1.fewer hY, h2⟩
set_option maxRecDepth 100000 in
/-- What is known of the pages of blobs that were put. -/
theorem Lb.pages (h : Lb w0 w Z p dp D n c f B) : (∀ x ∈ B, x.1.Nodup ∧ (∀ m ∈ x.1, 1 ≤ m ∧ m < c) ∧ x.1.length = K.pages x.2.length ∧ x.2.length ≤ 4000) ∧ B.Pairwise fun x y => ∀ m ∈ x.1, m ∉ y.1 := by
  obtain ⟨s, _, h2⟩ := h
  exact ⟨fun x hx => ⟨(h2.laid x hx).nd, (h2.laid x hx).is, (h2.laid x hx).len, (h2.laid x hx).b9⟩, h2.dj⟩
set_option maxRecDepth 100000 in
theorem lb_free2 (h : Lb w0 w Z p dp D n c f B) (hX : (sp, SBox p) ∈ Z) (hn : n + 210 ≤ 1000000) {ns : List Nat} {b : List UInt8} (hm : (ns, b) ∈ B) :
    Calls Tryz.prog 27 #[Ptr sp, .int .i64 ((K.ci ns).getD 0 0)] w (fun e w' => e = .returned (.int .i64 0) ∧ Hid (∃ f', Ld w0 w' Z p dp D (n + 210) c f' B ∧ K.cntT c f' + K.pages b.length = K.cntT c f)) := by
  obtain ⟨s, h1, h2⟩ := h
  have q := xfree_any h1 hX hn (by omega) ((K.ci ns).getD 0 0)
  obtain ⟨s', e1, e2, e3, e4⟩ := h2.free2 hm D
  rw [e1] at q
  refine q.mono ?_
  rintro e w' ⟨he, H⟩
  exact ⟨he, _, ⟨s', H.out, e2, e3⟩, e4⟩
set_option maxRecDepth 100000 in
theorem ld_taken (h : Ld w0 w Z p dp D n c f B) (hX : (sp, SBox p) ∈ Z) (hn : n + 10 ≤ 1000000) :
    Calls Tryz.prog 29 #[Ptr sp] w (fun e w' => ∃ a cap, e = .returned (.tuple #[.slice a (K.cntT c f) cap, .int .i64 0]) ∧ Hid (Ld w0 w' Z p dp D (n + 10) c f B)) := by
  obtain ⟨s, h1, h2, h3⟩ := h
  have q := staken_any h1 hX hn (by omega)
  obtain ⟨s', e1, e2, e3⟩ := h2.taken D
  rw [e1] at q
  refine q.mono ?_
  rintro e w' ⟨x, Z', he, H⟩
  obtain ⟨a, cap, hx, _⟩ := H.out.2.2
  subst hx
  rw [K.nums_cnt] at he
  exact ⟨a, cap, he, s', H.out.1.fewer (fun y hy => H.out.2.1 y hy), e2, fun x hx => (h3 x hx).keep (fun _ _ => e3 _)⟩
set_option maxRecDepth 100000 in
theorem ld_get (h : Ld w0 w Z p dp D n c f B) (hX : (sp, SBox p) ∈ Z) (hn : n + 20 ≤ 1000000) {ns : List Nat} {b : List UInt8} (hm : (ns, b) ∈ B) :
    Calls Tryz.prog 25 #[Ptr sp, .int .i64 ((K.ci ns).getD 0 0)] w (fun e w' => ∃ a cap, e = .returned (.tuple #[.slice a b.length cap, .int .i64 0]) ∧ Hid (Ld w0 w' Z p dp D (n + 20) c f B ∧ At w' a b)) := by
  obtain ⟨s, h1, h2, h3⟩ := h
  have q := xget_any h1 hX hn (by omega) ((K.ci ns).getD 0 0)
  obtain ⟨s', e1, e2, e3⟩ := h2.read (h3 _ hm) D
  rw [e1] at q
  refine q.mono ?_
  rintro e w' ⟨x, Z', he, H⟩
  obtain ⟨a, cap, hx, hA, _⟩ := H.out.2.2.get H.out.1
  have hx' : x = .slice a b.length cap := hx
  subst hx'
  exact ⟨a, cap, he, ⟨s', H.out.1.fewer (fun y hy => H.out.2.1 y hy), e2, fun x hx => (h3 x hx).keep (fun _ _ => e3 _)⟩, hA⟩
end
end Go.Proofs.YtjlennpoaefllaaGreatDoor

/- Blobs over a space, and an array of the law's own: the pages that were seen. -/
namespace Go.Proofs.YtjlennpoaefllaaGreatDoor
open Go.RowKit
/-- Sixty truths. -/
def arr60 (f : Nat → Bool) : Array Value := ((List.range 60).map fun i => Value.bool (f i)).toArray
abbrev AC (f : Nat → Bool) : Obj := .cells (arr60 f) 72 (0, 0)
set_option maxRecDepth 100000 in
theorem arr60_get (f : Nat → Bool) {i : Nat} (h : i < 60) : (arr60 f)[i]? = some (.bool (f i)) := by
  unfold arr60
  simp [h]
set_option maxRecDepth 100000 in
theorem arr60_set (f : Nat → Bool) {i : Nat} (h : i < 60) (b : Bool) : (arr60 f).setIfInBounds i (.bool b) = arr60 (fun j => if j = i then b else f j) := by
  apply Array.ext'
  rw [Array.toList_setIfInBounds]
  unfold arr60
  rw [List.toList_toArray, List.toList_toArray]
  apply List.ext_getElem?
  intro j
  by_cases q : j = i
  · subst q
    rw [List.getElem?_set_self (by simp [h])]
    simp [h]
  · rw [List.getElem?_set_ne (fun e => q e.symm)]
    by_cases q2 : j < 60
    · simp [q2, q]
    · simp [q2]
set_option maxRecDepth 100000 in
theorem zero60 (w : World) : (zeroValue 72).run Tryz.prog w = .ok (.agg (arr60 fun _ => false)) w := by kernel_rfl
/-- The array lies beside blocks that are nobody's. -/
def Sn (w0 w : World) (Z : List (Nat × Obj)) (p dp : Nat) (D : dSt) (n c : Nat) (f : Nat → Bool) (B : List (List Nat × List UInt8)) (g : Nat) (sn : Nat → Bool) : Prop := Lb w0 w ((g, AC sn) :: Z) p dp D n c f B ∧ (∀ y ∈ Z, y.1 ≠ g) ∧ w0.heap.size ≤ g
section
variable {w0 w w' : World} {Z : List (Nat × Obj)} {p dp sp : Nat} {D : dSt} {n n' c g : Nat} {v u : Value} {f sn : Nat → Bool} {B : List (List Nat × List UInt8)}
theorem Sn.le (h : Sn w0 w Z p dp D n c f B g sn) (hn : n ≤ n') : Sn w0 w Z p dp D n' c f B g sn := ⟨h.1.le hn, h.2⟩
theorem Sn.adds (h : Sn w0 w Z p dp D n c f B g sn) (hA : Adds w w') : Sn w0 w' Z p dp D n c f B g sn := ⟨h.1.adds hA, h.2⟩
theorem Sn.fewer (h : Sn w0 w Z p dp D n c f B g sn) {Y : List (Nat × Obj)} (hY : ∀ y ∈ Y, y ∈ Z) : Sn w0 w Y p dp D n c f B g sn :=
  ⟨h.1.fewer (fun y hy => by
    rcases List.mem_cons.1 hy with rfl | hy
    · exact List.mem_cons_self
    · exact List.mem_cons_of_mem _ (hY y hy)), fun y hy => h.2.1 y (hY y hy), h.2.2⟩
theorem Sn.at (h : Sn w0 w Z p dp D n c f B g sn) {x : Nat × Obj} (hx : x ∈ Z) : w.heap[x.1]? = some x.2 := h.1.at (List.mem_cons_of_mem _ hx)
set_option maxRecDepth 100000 in
theorem Sn.cell (h : Sn w0 w Z p dp D n c f B g sn) {i : Nat} (hi : i < 60) : w.cell? ⟨g, i, none⟩ = some (.bool (sn i)) ∧ w.frozen? ⟨g, i, none⟩ = false := by
  have hb : w.heap[g]? = some (AC sn) := h.1.at (x := (g, AC sn)) List.mem_cons_self
  exact ⟨by rw [cellOf hb]; exact arr60_get sn hi, by simp [World.frozen?, hb]⟩
set_option maxRecDepth 100000 in
/-- The array is told apart from all else. -/
theorem Sn.of (h : Lb w0 w Z p dp D n c f B) (hm : (g, AC sn) ∈ Z) (hg : w0.heap.size ≤ g) : ∃ Y, Sn w0 w Y p dp D n c f B g sn ∧ (∀ x ∈ Z, x.1 ≠ g → x ∈ Y) ∧ (∀ v zs, AgX Z v zs → AgX Y v zs) ∧ ∀ v bs, BgX Z v bs → BgX Y v bs := by
  have hin : ∀ x ∈ Z, x.1 ≠ g → x ∈ Z.filter fun y => decide (y.1 ≠ g) := fun x hx hne => List.mem_filter.2 ⟨hx, by simpa using hne⟩
  have hne : ∀ (b : Nat) (cs : Array Value) (e : Nat) (fr : Nat × Nat), (b, Obj.cells cs e fr) ∈ Z → e ≠ 72 → b ≠ g := fun b cs e fr q2 he e3 => by
    have h1 := h.at q2
    have h2 := h.at hm
    have h3 : w.heap[g]? = some (Obj.cells cs e fr) := by rw [← e3]; exact h1
    rw [show w.heap[g]? = some (AC sn) from h2] at h3
    injection h3 with h4
    injection h4 with h5 h6 h7
    exact he h6.symm
  refine ⟨Z.filter fun y => decide (y.1 ≠ g), ⟨h.fewer (fun y hy => ?_), fun y hy => by simpa using (List.mem_filter.1 hy).2, hg⟩, hin, fun v zs hv => ?_, fun v bs hv => ?_⟩
  · rcases List.mem_cons.1 hy with rfl | hy
    · exact hm
    · exact (List.mem_filter.1 hy).1
  · obtain ⟨a, cap, e, hcs⟩ := hv
    refine ⟨a, cap, e, fun i hi => ?_⟩
    obtain ⟨b, o, cs, fr, q1, q2, q3⟩ := hcs i hi
    exact ⟨b, o, cs, fr, q1, hin _ q2 (hne b cs 3 fr q2 (by decide)), q3⟩
  · obtain ⟨a, cap, e, h1, h2, hcs⟩ := hv
    refine ⟨a, cap, e, h1, h2, fun i c hi => ?_⟩
    obtain ⟨b, o, cs, fr, q1, q2, q3⟩ := hcs i c hi
    exact ⟨b, o, cs, fr, q1, hin _ q2 (hne b cs 5 fr q2 (by decide)), q3⟩
set_option maxRecDepth 100000 in
/-- What lies in blocks that are nobody's. -/
theorem Sn.ag (h : Sn w0 w Z p dp D n c f B g sn) {a : Option Addr} {m cap : Nat} {zs : List Int} (hv : AgX Z (.slice a m cap) zs) {i : Nat} (hi : i < zs.length) : ∃ b o, a = some ⟨b, o, none⟩ ∧ w.cell? ⟨b, o + i, none⟩ = some (.int .i64 zs[i]) := by
  obtain ⟨a', cap', e, hcs⟩ := hv
  injection e with e1 e2 e3
  subst e1
  obtain ⟨b, o, cs, fr, q1, q2, q3⟩ := hcs i hi
  exact ⟨b, o, q1, by rw [cellOf (h.at q2)]; exact q3⟩
set_option maxRecDepth 100000 in
theorem Sn.sg (h : Sn w0 w Z p dp D n c f B g sn) {a : Option Addr} {m cap : Nat} {ss : List (List UInt8)} (hv : SgX Z (.slice a m cap) ss) {i : Nat} (hi : i < ss.length) : ∃ b o, a = some ⟨b, o, none⟩ ∧ w.cell? ⟨b, o + i, none⟩ = some (Str ss[i]) := by
  obtain ⟨a', cap', e, hcs⟩ := hv
  injection e with e1 e2 e3
  subst e1
  obtain ⟨b, o, cs, fr, q1, q2, q3⟩ := hcs i hi
  exact ⟨b, o, q1, by rw [cellOf (h.at q2)]; exact q3⟩
set_option maxRecDepth 100000 in
theorem Ld.ag (h : Ld w0 w Z p dp D n c f B) {a : Option Addr} {m cap : Nat} {zs : List Int} (hv : AgX Z (.slice a m cap) zs) {i : Nat} (hi : i < zs.length) : ∃ b o, a = some ⟨b, o, none⟩ ∧ w.cell? ⟨b, o + i, none⟩ = some (.int .i64 zs[i]) := by
  obtain ⟨a', cap', e, hcs⟩ := hv
  injection e with e1 e2 e3
  subst e1
  obtain ⟨b, o, cs, fr, q1, q2, q3⟩ := hcs i hi
  exact ⟨b, o, q1, by rw [cellOf (h.at q2)]; exact q3⟩
set_option maxRecDepth 100000 in
theorem Ld.sg (h : Ld w0 w Z p dp D n c f B) {a : Option Addr} {m cap : Nat} {ss : List (List UInt8)} (hv : SgX Z (.slice a m cap) ss) {i : Nat} (hi : i < ss.length) : ∃ b o, a = some ⟨b, o, none⟩ ∧ w.cell? ⟨b, o + i, none⟩ = some (Str ss[i]) := by
  obtain ⟨a', cap', e, hcs⟩ := hv
  injection e with e1 e2 e3
  subst e1
  obtain ⟨b, o, cs, fr, q1, q2, q3⟩ := hcs i hi
  exact ⟨b, o, q1, by rw [cellOf (h.at q2)]; exact q3⟩
set_option maxRecDepth 100000 in
theorem Sn.bg (h : Sn w0 w Z p dp D n c f B g sn) {a : Option Addr} {m cap : Nat} {bs : List UInt8} (hv : BgX Z (.slice a m cap) bs) : At w a bs := by
  obtain ⟨a', cap', e, _, _, hcs⟩ := hv
  injection e with e1 e2 e3
  subst e1
  intro j c hj
  obtain ⟨b, o, cs, fr, q1, q2, q3⟩ := hcs j c hj
  exact ⟨b, o, q1, by rw [cellOf (h.at q2)]; exact q3⟩
set_option maxRecDepth 100000 in
/-- One page more is seen. -/
theorem Sn.set (h : Sn w0 w Z p dp D n c f B g sn) {i : Nat} (hi : i < 60) : Sn w0 (w.setCell ⟨g, i, none⟩ (.bool true)) Z p dp D n c f B g (fun j => if j = i then true else sn j) := by
  have hb : w.heap[g]? = some (AC sn) := h.1.at (x := (g, AC sn)) List.mem_cons_self
  have hT : Touch (fun j => j = g) w (w.setCell ⟨g, i, none⟩ (.bool true)) := Touch.setCell (T := fun j => j = g) (Touch.refl _ w) (p := ⟨g, i, none⟩) (fun _ => rfl) _
  obtain ⟨⟨s, h1, h2⟩, h3, h4⟩ := h
  refine ⟨⟨s, h1.turn hT ⟨(g, AC sn), List.mem_cons_self, rfl⟩ h4 (fun y hy => ?_), h2⟩, h3, h4⟩
  rcases List.mem_cons.1 hy with rfl | hy
  · exact ⟨⟨(g, AC sn), List.mem_cons_self, rfl⟩, by rw [heap_setCell_same w g i _ 72 _ hb, arr60_set sn hi true]⟩
  · have hl := h1.at y (List.mem_cons_of_mem _ hy)
    exact ⟨⟨y, List.mem_cons_of_mem _ hy, rfl⟩, by rw [hT.block y.1 (Array.getElem?_eq_some_iff.1 hl).1 (h3 y hy)]; exact hl⟩
set_option maxRecDepth 100000 in
theorem sn_get (h : Sn w0 w Z p dp D n c f B g sn) (hX : (sp, SBox p) ∈ Z) (hn : n + 20 ≤ 1000000) {ns : List Nat} {b : List UInt8} (hm : (ns, b) ∈ B) :
    Calls Tryz.prog 25 #[Ptr sp, .int .i64 ((K.ci ns).getD 0 0)] w (fun e w' => ∃ a cap Y, e = .returned (.tuple #[.slice a b.length cap, .int .i64 0]) ∧ Hid (Sn w0 w' Y p dp D (n + 20) c f B g sn ∧ (∀ x ∈ Z, x ∈ Y) ∧ BgX Y (.slice a b.length cap) b)) := by
  refine (lb_get h.1 (List.mem_cons_of_mem _ hX) hn hm).mono ?_
  rintro e w' ⟨a, cap, Z', he, H⟩
  obtain ⟨h1, h2, h3⟩ := H.out
  obtain ⟨Y, q1, q2, _, q3⟩ := Sn.of h1 (h2 (g, AC sn) List.mem_cons_self) h.2.2
  exact ⟨a, cap, Y, he, q1, fun x hx => q2 x (h2 x (List.mem_cons_of_mem _ hx)) (h.2.1 x hx), q3 _ _ h3⟩
set_option maxRecDepth 100000 in
theorem sn_chain (h : Sn w0 w Z p dp D n c f B g sn) (hX : (sp, SBox p) ∈ Z) (hn : n + 20 ≤ 1000000) {ns : List Nat} {b : List UInt8} (hm : (ns, b) ∈ B) :
    Calls Tryz.prog 26 #[Ptr sp, .int .i64 ((K.ci ns).getD 0 0)] w (fun e w' => ∃ a cap Y, e = .returned (.tuple #[.slice a (K.pages b.length) cap, .int .i64 0]) ∧ Hid (Sn w0 w' Y p dp D (n + 20) c f B g sn ∧ (∀ x ∈ Z, x ∈ Y) ∧ AgX Y (.slice a (K.pages b.length) cap) (K.ci ns))) := by
  refine (lb_chain h.1 (List.mem_cons_of_mem _ hX) hn hm).mono ?_
  rintro e w' ⟨a, cap, Z', he, H⟩
  obtain ⟨h1, h2, h3⟩ := H.out
  obtain ⟨Y, q1, q2, q3, _⟩ := Sn.of h1 (h2 (g, AC sn) List.mem_cons_self) h.2.2
  exact ⟨a, cap, Y, he, q1, fun x hx => q2 x (h2 x (List.mem_cons_of_mem _ hx)) (h.2.1 x hx), q3 _ _ h3⟩
end
end Go.Proofs.YtjlennpoaefllaaGreatDoor
