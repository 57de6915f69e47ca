/- Texts put together: WWhole, WFind0. -/
import Derived.Test.YtllkplanjfnnmaaGreatDoorQ19
import Derived.Test.YtllkplanjfnnmaaGreatDoorQ23
import Derived.Test.YtllkplanjfnnmaaGreatDoorQ24
/- How many bytes all pieces of a group have. -/
namespace Go.Proofs.YtllkplanjfnnmaaGreatDoor
open Go.RowKit

set_option maxRecDepth 100000 in
theorem W.need_le (b : List UInt8) : W.need b ≤ 4294967299 := by
  unfold W.need M.fixedR
  have h1 := M.takeR_len (M.clamp 4) ⟨0, b.take 4⟩
  rw [show M.clamp 4 = 4 from rfl] at *
  have h2 := (M.fix_unfix _ (M.takeR 4 ⟨0, b.take 4⟩).1 rfl).2
  have h3 : 256 ^ (M.takeR 4 ⟨0, b.take 4⟩).1.length ≤ 256 ^ 4 := Nat.pow_le_pow_right (by decide) h1
  simp only
  omega
set_option maxRecDepth 100000 in
set_option maxHeartbeats 1000000 in
theorem wholeOf_any (a : Option Addr) (bs : List UInt8) (n cap : Nat) (hn : bs.length = n) (w : World) (hcap : a = none → cap = 0) (hc : n ≤ cap) (hA : At w a bs) : Calls Tryz.prog 76 #[.slice a n cap] w (Adding (.int .u64 (W.need bs : Int)) w) := by
  obtain ⟨m, hm⟩ : ∃ m, m = (bs.take 4).length := ⟨_, rfl⟩
  have hm2 : m = min 4 n := by rw [hm, List.length_take, hn]
  have HR := hid (show Calls Tryz.prog 71 #[.slice a m cap] w (PRead w (bs.take 4)) by rw [hm]; exact read_any a (bs.take 4) cap w (by omega) hcap (hA.pre 4))
  obtain ⟨x, hx⟩ : ∃ x, x = (M.fixedR 4 ⟨0, bs.take 4⟩).1 := ⟨_, rfl⟩
  have hx2 := W.need_le bs
  have HX := hid (show W.need bs = 4 + x by rw [W.need, hx])
  rw [HX.out] at hx2
  have HF := hid (fun w1 p (h : RD w1 (Ptr p) ⟨0, bs.take 4⟩) => show Calls Tryz.prog 102 #[Ptr p, .int .i64 4] w1 (PR w1 (Ptr p) (.int .u64 (x : Int)) (M.fixedR 4 ⟨0, bs.take 4⟩).2) by rw [hx]; exact fixed_any 4 h)
  clear hcap hA hx hm hn
  by_cases h4 : n < 4
  · obtain rfl : m = n := by omega
    clear hm2
    have h4' : (m : Int) < 4 := by omega
    go_enter Tryz.func76, Tryz.ntmps76
    go_wp2_with (first
      | (go_at_call 71; refine HR.out.mono ?_; rintro e w1 ⟨p, rfl, hp, hr, hA1⟩; have H1 := hid (And.intro hp (And.intro hr hA1)); clear hp hr hA1)
      | (go_at_call 102; refine (HF.out w1 p H1.out.2.1).mono ?_; rintro e w2 ⟨rfl, hr2, hT2⟩; have H2 := hid (Adds.own H1.out.2.2 hT2 H1.out.1); clear hr2 hT2))
    go_ret
    refine ⟨?_, H2.out⟩
    rw [HX.out]
    go_num
  · obtain rfl : m = 4 := by omega
    have h4' : ¬ (n : Int) < 4 := by omega
    clear hm2
    go_enter Tryz.func76, Tryz.ntmps76
    go_wp2_with (first
      | (go_at_call 71; refine HR.out.mono ?_; rintro e w1 ⟨p, rfl, hp, hr, hA1⟩; have H1 := hid (And.intro hp (And.intro hr hA1)); clear hp hr hA1)
      | (go_at_call 102; refine (HF.out w1 p H1.out.2.1).mono ?_; rintro e w2 ⟨rfl, hr2, hT2⟩; have H2 := hid (Adds.own H1.out.2.2 hT2 H1.out.1); clear hr2 hT2))
    go_ret
    refine ⟨?_, H2.out⟩
    rw [HX.out]
    go_num
end Go.Proofs.YtllkplanjfnnmaaGreatDoor

/- The groups that stand are found. -/
namespace Go.Proofs.YtllkplanjfnnmaaGreatDoor
open Go.RowKit

/-- Where finding is, in memory. -/
structure FindI (w wr : World) (l p : Nat) (L : LS) (gv : Value) (hs : List Part) (gs : List (List UInt8)) (v : Value) (b : List UInt8) : Prop where
  box : wr.heap[l]? = some (LBox p { L with G := gs, R := [] } gv (.slice none 0 0))
  rows : wr.ownsRow 0 56 1 gv hs.length (hs.map PV)
  gown : ∀ k, gv.ownBlock = some k → w.heap.size ≤ k
  data : ∀ x ∈ hs, PQ wr (fun k => w.heap.size ≤ k ∧ k ≠ l ∧ gv.ownBlock ≠ some k ∧ v.ownBlock ≠ some k) x
  bytes : hs.map (·.bs) = gs
  brow : wr.ownsRow 0 5 1 v b.length (S b)
  vown : ∀ k, v.ownBlock = some k → w.heap.size ≤ k
  keep : Touch (fun k => k = l) w wr
theorem FindI.adds {w wr w' : World} {l p : Nat} {L : LS} {gv : Value} {hs : List Part} {gs : List (List UInt8)} {v : Value} {b : List UInt8} (h : FindI w wr l p L gv hs gs v b) (hA : Adds wr w') : FindI w w' l p L gv hs gs v b :=
  ⟨hA.at' h.box id, row_touch h.rows hA (fun _ _ => id), h.gown, fun x hx => (h.data x hx).adds hA, h.bytes, row_touch h.brow hA (fun _ _ => id), h.vown, h.keep.trans (hA.mono (fun _ _ c => c.elim))⟩
set_option maxRecDepth 100000 in
theorem FindI.ne {w wr : World} {l p : Nat} {L : LS} {gv : Value} {hs : List Part} {gs : List (List UInt8)} {v : Value} {b : List UInt8} (h : FindI w wr l p L gv hs gs v b) : gv.ownBlock ≠ some l ∧ v.ownBlock ≠ some l ∧ ∀ k, gv.ownBlock = some k → v.ownBlock ≠ some k := by
  refine ⟨fun e => ?_, fun e => ?_, fun k e e' => ?_⟩
  · obtain ⟨c, hc⟩ := row_type h.rows e; exact type_ne hc h.box (by decide) rfl
  · obtain ⟨c, hc⟩ := row_type h.brow e; exact type_ne hc h.box (by decide) rfl
  · obtain ⟨c, hc⟩ := row_type h.rows e; obtain ⟨d, hd⟩ := row_type h.brow e'; exact type_ne hc hd (by decide) rfl
set_option maxRecDepth 100000 in
/-- One more piece. -/
theorem FindI.piece {w wr w' : World} {l p : Nat} {L : LS} {gv : Value} {hs : List Part} {gs : List (List UInt8)} {v v' : Value} {b c : List UInt8} (h : FindI w wr l p L gv hs gs v b) (hG : Grew wr w' 5 v v' (b.length + c.length) (S b ++ S c)) : FindI w w' l p L gv hs gs v' (b ++ c) := by
  have hn := h.ne
  have hs := h.keep.size
  have hlt : ∀ k, k < wr.heap.size → v.ownBlock ≠ some k → v'.ownBlock ≠ some k := fun k hk hn c => by
    rcases hG.2.2 with e | e
    · exact hn (by rw [← e]; exact c)
    · rw [e] at c; cases c; omega
  refine ⟨hG.touch.at' h.box hn.2.1, row_touch h.rows hG.touch (fun k hk => hn.2.2 k hk), h.gown, fun x hx => ?_, h.bytes, by rw [List.length_append, S_append]; exact hG.1, hG.lt hs h.vown, h.keep.then hG.touch (fun k hk c => by have := h.vown k c; omega)⟩
  have q := (h.data x hx).mono (Q' := fun k => (w.heap.size ≤ k ∧ k ≠ l ∧ gv.ownBlock ≠ some k ∧ v.ownBlock ≠ some k) ∧ v'.ownBlock ≠ some k) (fun k hk q => ⟨q, hlt k hk q.2.2.2⟩)
  exact (q.touch hG.touch (fun k q => q.1.2.2.2)).mono (fun k _ q => ⟨q.1.1, q.1.2.1, q.1.2.2.1, q.2⟩)
set_option maxRecDepth 100000 in
/-- One more group. -/
theorem FindI.group {w wr w7 w8 w9 : World} {l p : Nat} {L : LS} {gv gv' : Value} {hs : List Part} {gs : List (List UInt8)} {v : Value} {b : List UInt8} {x : Part} (h : FindI w wr l p L gv hs gs v b) (hA : Adds wr w7) (hG : Grew w7 w8 56 gv gv' (hs.length + 1) (hs.map PV ++ [PV x]))
    (hx : PQ wr (fun k => v.ownBlock = some k) x) (hT : Touch (fun k => k = l) w8 w9) (hb : w9.heap[l]? = some (LBox p { L with G := gs ++ [x.bs], R := [] } gv' (.slice none 0 0))) : FindI w w9 l p L gv' (hs ++ [x]) (gs ++ [x.bs]) (.slice none 0 0) [] := by
  have hn := h.ne
  have hsz := h.keep.size
  have hw := hA.size
  have hlt : ∀ k, k < wr.heap.size → gv.ownBlock ≠ some k → gv'.ownBlock ≠ some k := fun k hk hn c => by
    rcases hG.2.2 with e | e
    · exact hn (by rw [← e]; exact c)
    · rw [e] at c; cases c; omega
  have h8 : w8.heap[l]? = some (LBox p { L with G := gs, R := [] } gv (.slice none 0 0)) := hG.touch.at' (hA.at' h.box id) hn.1
  refine ⟨hb, ?_, hG.lt (by omega) h.gown, fun y hy => ?_, by rw [List.map_append, h.bytes]; rfl, World.ownsRow_nil _ _ _ _, fun k hk => (by cases hk), ?_⟩
  · rw [List.length_append, List.map_append]
    refine row_touch (T := fun k => k = l) hG.1 hT (fun k hk e => ?_)
    obtain ⟨c, hc⟩ := row_type hG.1 hk
    exact type_ne hc h8 (by decide) e
  · rcases List.mem_append.1 hy with hy | hy
    · have q := (h.data y hy).mono (Q' := fun k => (w.heap.size ≤ k ∧ k ≠ l ∧ gv.ownBlock ≠ some k) ∧ gv'.ownBlock ≠ some k) (fun k hk q => ⟨⟨q.1, q.2.1, q.2.2.1⟩, hlt k hk q.2.2.1⟩)
      exact (((q.adds hA).touch hG.touch (fun k q => q.1.2.2)).touch hT (fun k q => q.1.2.1)).mono (fun k _ q => ⟨q.1.1, q.1.2.1, q.2, fun c => by cases c⟩)
    · obtain rfl := List.mem_singleton.1 hy
      have q := hx.mono (Q' := fun k => (w.heap.size ≤ k ∧ k ≠ l ∧ gv.ownBlock ≠ some k) ∧ gv'.ownBlock ≠ some k) (fun k hk q => by
        have h1 : gv.ownBlock ≠ some k := fun c => hn.2.2 k c q
        exact ⟨⟨h.vown k q, fun e => hn.2.1 (by rw [← e]; exact q), h1⟩, hlt k hk h1⟩)
      exact (((q.adds hA).touch hG.touch (fun k q => q.1.2.2)).touch hT (fun k q => q.1.2.1)).mono (fun k _ q => ⟨q.1.1, q.1.2.1, q.2, fun c => by cases c⟩)
  · exact (((h.keep.trans (hA.mono (fun _ _ c => c.elim))).then hG.touch (fun k hk c => by have := h.gown k c; omega)).trans hT)
theorem FindI.log {w wr : World} {l p : Nat} {L : LS} {gv : Value} {hs : List Part} {gs : List (List UInt8)} {v : Value} {b : List UInt8} (h : FindI w wr l p L gv hs gs v b) : IsLog wr (fun k => k = l ∨ (w.heap.size ≤ k ∧ k < wr.heap.size)) l p { L with G := gs, R := [] } :=
  ⟨gv, .slice none 0 0, hs, h.box, h.rows, fun x hx => (h.data x hx).mono (fun k hk q => ⟨.inr ⟨q.1, hk⟩, q.2.1, q.2.2.1, fun c => by cases c⟩), h.bytes, World.ownsRow_nil _ _ _ _, .inl rfl, fun k hk => .inr ⟨h.gown k hk, (row_low h.rows hk).2⟩, fun k hk => (by cases hk)⟩
/-- What find leaves. -/
def PFind (w : World) (l p : Nat) (L : LS) (e : Ending) (w' : World) : Prop := e = .returned (.int .i64 0) ∧ IsLog w' (fun k => k = l ∨ (w.heap.size ≤ k ∧ k < w'.heap.size)) l p L ∧ Touch (fun k => k = l) w w'
/-- The log's sectors. -/
def secOf (D : dSt) (fr : Nat) (i : Nat) : List UInt8 := hasOf D.H D.W ((fr + i : Nat) : Int)
set_option maxRecDepth 100000 in
theorem wp_append_b1 {w : World} {o : Oper} {act : Act} {K : Act → World → Prop} {Q : Exit → Act → World → Prop} (s x : Operand)
    (ho : o.op = .call { callee := .builtin .append, args := #[s, x], argTypes := #[61, 61] }) (v : Value) (n : Nat) (xs : List Value) (hs : act.eval s = v) (hown : w.ownsRow 0 56 1 v n xs)
    (g : Nat) (u : Value) (hx : act.eval x = .slice (some ⟨g, 0, none⟩) 1 1) (hc : w.cell? ⟨g, 0, none⟩ = some u) (hu : u.oneCell' = true) (hlen : n ≤ 10000000)
    (h : ∀ v' w', Grew w w' 56 v v' (n + 1) (xs ++ [u]) → K (act.put o.dst v') w') : o.wp Tryz.prog act w K Q := by
  obtain ⟨i0, hi, hz0, hz1, hz2⟩ := infoB
  refine wp_append_own_at s x 61 ho 0 56 i0 (.slice none 0 0) 1 24 Tryz.underlying61 hi hz0 hz1 hz2 rfl (by decide) v n xs hs hown ⟨g, 0, none⟩ 1 1 [u] hx rfl ?_ (fun y hy => by rw [List.mem_singleton.1 hy]; exact hu) (by unfold maxLen; omega) (by omega) (Nat.zero_le _) (fun v' w' h1 h2 _ h4 => h v' w' ⟨h1, h2, h4⟩)
  intro j y hj
  match j, hj with
  | 0, hj =>
    obtain rfl : u = y := by simpa using hj
    rw [Addr.add_mid]; exact hc
end Go.Proofs.YtllkplanjfnnmaaGreatDoor
