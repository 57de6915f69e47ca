/- Texts put together: UMem, WLeaf, WRecs, WCut, WLog. -/
import Derived.Test.YtcablnjhfocogaaDoorQ25
import Derived.Test.YtcablnjhfocogaaDoorQ26
import Derived.Test.YtcablnjhfocogaaDoorQ16
/- Where numbers lie; slices.Clone of numbers. -/
namespace Go.Proofs.YtcablnjhfocogaaDoor
open Go.RowKit

abbrev U8 (n : Nat) : Value := .int .u64 (n : Int)
def N8 (ns : List Nat) : List Value := ns.map U8
set_option maxRecDepth 100000 in
theorem len_N8 (ns : List Nat) : (N8 ns).length = ns.length := by simp [N8]
set_option maxRecDepth 100000 in
theorem N8_get (ns : List Nat) (j : Nat) : (N8 ns)[j]? = ns[j]?.map U8 := by simp [N8]
set_option maxRecDepth 100000 in
theorem N8_app (a b : List Nat) : N8 (a ++ b) = N8 a ++ N8 b := by simp [N8]
set_option maxRecDepth 100000 in
theorem one_N8 (ns : List Nat) : ∀ v ∈ N8 ns, v.oneCell' = true := by
  intro v hv
  obtain ⟨n, _, rfl⟩ := List.mem_map.1 hv
  rfl
/-- A list of numbers: where it lies. -/
structure NPart where
  a : Option Addr
  cap : Nat
  ns : List Nat
abbrev NV (x : NPart) : Value := .slice x.a x.ns.length x.cap
structure NQ (w : World) (Q : Nat → Prop) (x : NPart) : Prop where
  at_ : CQ w Q x.a (N8 x.ns)
  non : x.a = none → x.cap = 0
theorem NQ.touch {w w' : World} {T Q : Nat → Prop} {x : NPart} (h : NQ w Q x) (ht : Touch T w w') (hn : ∀ k, Q k → ¬ T k) : NQ w' Q x := ⟨h.at_.touch ht hn, h.non⟩
theorem NQ.adds {w w' : World} {Q : Nat → Prop} {x : NPart} (h : NQ w Q x) (ht : Adds w w') : NQ w' Q x := ⟨h.at_.adds ht, h.non⟩
theorem NQ.mono {w : World} {Q Q' : Nat → Prop} {x : NPart} (h : NQ w Q x) (hq : ∀ k, k < w.heap.size → Q k → Q' k) : NQ w Q' x := ⟨h.at_.mono hq, h.non⟩
theorem NQ.nil (w : World) (Q : Nat → Prop) : NQ w Q ⟨none, 0, []⟩ := ⟨CQ.nil _ _ _, fun _ => rfl⟩
set_option maxRecDepth 100000 in
theorem NQ.get {w : World} {Q : Nat → Prop} {x : NPart} (h : NQ w Q x) {k : Nat} (hk : k < x.ns.length) : ∃ b o n, x.a = some ⟨b, o, none⟩ ∧ x.ns[k]? = some n ∧ w.cell? ⟨b, o + k, none⟩ = some (.int .u64 (n : Int)) := by
  have hx : x.ns[k]? = some x.ns[k] := List.getElem?_eq_getElem hk
  obtain ⟨b, o, e, _, hc⟩ := h.at_ k (U8 x.ns[k]) (by rw [N8_get, hx]; rfl)
  exact ⟨b, o, _, e, hx, hc⟩
set_option maxRecDepth 100000 in
theorem infoU : ∃ i, Tryd.prog.info? 52 = some i ∧ i.zero = some (.int .u64 0) ∧ i.size = 1 ∧ i.bytes = 8 := by
  have h : (Tryd.prog.info? 52).map (fun i => (i.zero, i.size, i.bytes)) = some (some (.int .u64 0), 1, 8) := by kernel_rfl
  cases hq : Tryd.prog.info? 52 with
  | none => rw [hq] at h; cases h
  | some i =>
    rw [hq] at h
    simp only [Option.map_some, Option.some.injEq, Prod.mk.injEq] at h
    exact ⟨i, rfl, h.1, h.2.1, h.2.2⟩
set_option maxRecDepth 100000 in
theorem append_u1 {w : World} {ops : Array Oper} {rest : List Oper} {o : Oper} {act : Act} {Q : Exit → Act → World → Prop} (hgd : o.guard = none) (s x : Operand)
    (ho : o.op = .call { callee := .builtin .append, args := #[s, x], argTypes := #[22, 22] }) (v : Value) (n : Nat) (xs : List Value) (hs : act.eval s = v) (hown : w.ownsRow 0 52 1 v n xs)
    (g : Nat) (u : Value) (hx : act.eval x = .slice (some ⟨g, 0, none⟩) 1 1) (hc : w.cell? ⟨g, 0, none⟩ = some u) (hu : u.oneCell' = true) (hlen : n ≤ 10000000)
    (h : ∀ v' w', Grew w w' 52 v v' (n + 1) (xs ++ [u]) → wpList Tryd.prog ops Q rest (act.put o.dst v') w') : wpList Tryd.prog ops Q (o :: rest) act w := by
  obtain ⟨i0, hi, hz0, hz1, hz2⟩ := infoU
  refine wpList_append_own_at _ hgd s x 22 ho 0 52 i0 (.int .u64 0) 1 8 Tryd.underlying22 hi hz0 hz1 hz2 rfl (by decide) v n xs hs hown ⟨g, 0, none⟩ 1 1 [u] hx rfl ?_ (fun y hy => by rw [List.mem_singleton.1 hy]; exact hu) (by unfold maxLen; omega) (by omega) (Nat.zero_le _) (fun v' w' h1 h2 _ h4 => h v' w' ⟨h1, h2, h4⟩)
  intro j y hj
  match j, hj with
  | 0, hj =>
    obtain rfl : u = y := by simpa using hj
    rw [Addr.add_mid]; exact hc
set_option maxRecDepth 100000 in
theorem append_um {w : World} {ops : Array Oper} {rest : List Oper} {o : Oper} {act : Act} {Q : Exit → Act → World → Prop} {Q' : Nat → Prop} (hgd : o.guard = none) (s x : Operand)
    (ho : o.op = .call { callee := .builtin .append, args := #[s, x], argTypes := #[22, 22] }) (v : Value) (n : Nat) (xs : List Value) (hs : act.eval s = v) (hown : w.ownsRow 0 52 1 v n xs)
    (a : Option Addr) (m cap : Nat) (ns : List Nat) (hm : ns.length = m) (hx : act.eval x = .slice a m cap) (hcap : a = none → cap = 0) (hA : CQ w Q' a (N8 ns)) (hlen : n + m ≤ 1000000000)
    (h : ∀ v' w', Grew w w' 52 v v' (n + m) (xs ++ N8 ns) → wpList Tryd.prog ops Q rest (act.put o.dst v') w') : wpList Tryd.prog ops Q (o :: rest) act w := by
  obtain ⟨i0, hi, hz0, hz1, hz2⟩ := infoU
  cases a with
  | none =>
    obtain rfl := hcap rfl
    obtain rfl : ns = [] := by
      cases ns with
      | nil => rfl
      | cons u l => obtain ⟨b, o', e, _⟩ := hA 0 (U8 u) rfl; cases e
    obtain rfl : m = 0 := by rw [← hm]; rfl
    exact wpList_append_own_none hgd s x 22 ho 0 52 i0 1 Tryd.underlying22 hi v n xs hs hown hx (h v w ⟨by simpa [N8] using hown, ⟨rfl, rfl, rfl, Nat.le_refl _, fun _ _ _ => rfl⟩, .inl rfl⟩)
  | some ad =>
    refine wpList_append_own_at _ hgd s x 22 ho 0 52 i0 (.int .u64 0) 1 8 Tryd.underlying22 hi hz0 hz1 hz2 rfl (by decide) v n xs hs hown ad m cap (N8 ns) hx (by rw [len_N8]; omega) ?_ (one_N8 ns) (by unfold maxLen; omega) (by omega) (Nat.zero_le _) (fun v' w' g1 g2 _ g4 => h v' w' ⟨g1, g2, g4⟩)
    intro j y hj
    obtain ⟨b, o', e, _, hc⟩ := hA j y hj
    obtain rfl : ad = ⟨b, o', none⟩ := by simpa using e
    rw [Addr.add_mid]; exact hc
/-- Numbers in new memory. -/
def PNum (w : World) (ns : List Nat) (e : Ending) (w' : World) : Prop := ∃ a cap, e = .returned (.slice a ns.length cap) ∧ Hid (NQ w' (fun k => w.heap.size ≤ k) ⟨a, cap, ns⟩ ∧ Adds w w')
set_option maxRecDepth 100000 in
theorem uclone_nil (w : World) : Calls Tryd.prog 18 #[.slice none 0 0] w (PNum w []) := by
  have hq := fun w => Lib.run_eql_slice_nil (P := Tryd.prog) w 22 52 none 0 0 0 0 Tryd.underlying22
  go_enter Tryd.func18, Tryd.ntmps18
  go_wp2_with fail
  go_ret
  exact ⟨none, 0, rfl, NQ.nil _ _, Touch.refl _ _⟩
set_option maxRecDepth 100000 in
set_option maxHeartbeats 1000000 in
theorem uclone_some {Q : Nat → Prop} (b o cap m : Nat) (ns : List Nat) (hm : ns.length = m) (w : World) (hl : m ≤ 1000000) (hA : CQ w Q (some ⟨b, o, none⟩) (N8 ns)) : Calls Tryd.prog 18 #[.slice (some ⟨b, o, none⟩) m cap] w (PNum w ns) := by
  have hq := fun w => Lib.run_eql_slice_nil (P := Tryd.prog) w 22 52 (some ⟨b, o, none⟩) m cap 0 0 Tryd.underlying22
  have HA := hid (hA.adds ((Touch.refl _ w).alloc (.cells #[] 52)))
  have HR := hid (show (w.alloc (.cells #[] 52)).ownsRow 0 52 1 (.slice (some ⟨w.heap.size, 0, none⟩) 0 0) 0 [] from World.ownsRow_lit (base := 0) (e := 52) (size := 1) w #[] 0 (Nat.zero_le _) (by decide) rfl)
  clear hA
  go_enter Tryd.func18, Tryd.ntmps18
  go_wp2_with (at_builtin; refine append_um rfl _ _ rfl (.slice (some ⟨w.heap.size, 0, none⟩) 0 0) 0 [] rfl HR.out (some ⟨b, o, none⟩) m cap ns hm rfl (fun e => (by cases e)) HA.out (by omega) ?_; intro v' w3 G3; have HG := hid G3; clear G3)
  go_ret
  have hG := HG.out
  obtain ⟨a, c, e, _, hn, hcq⟩ := own_cq hG.1
  have hlo : ∀ k, v'.ownBlock = some k → w.heap.size ≤ k := hG.lt (by simp) (fun k hk => by cases hk; exact Nat.le_refl _)
  refine ⟨a, c, by rw [e, hm, Nat.zero_add]; rfl, ⟨?_, hn⟩, ?_⟩
  · have q := hcq.mono (Q' := fun k => w.heap.size ≤ k) (fun k _ c => hlo k c)
    rw [List.nil_append] at q
    exact q
  · exact ((Touch.refl _ w).alloc _).then hG.touch (fun k hk c => by cases c; exact absurd hk (Nat.lt_irrefl _))
set_option maxRecDepth 100000 in
theorem uclone_any {Q : Nat → Prop} (a : Option Addr) (cap m : Nat) (ns : List Nat) (hm : ns.length = m) (w : World) (hl : m ≤ 1000000) (hA : NQ w Q ⟨a, cap, ns⟩) : Calls Tryd.prog 18 #[.slice a m cap] w (PNum w ns) := by
  cases a with
  | none =>
    obtain rfl : cap = 0 := hA.non rfl
    obtain rfl : ns = [] := by
      cases ns with
      | nil => rfl
      | cons u l => obtain ⟨b, o', e, _⟩ := hA.at_ 0 (U8 u) rfl; cases e
    obtain rfl : m = 0 := by rw [← hm]; rfl
    exact uclone_nil w
  | some ad =>
    by_cases h0 : ns = []
    · subst h0
      obtain rfl : m = 0 := by rw [← hm]; rfl
      have hq := fun w => Lib.run_eql_slice_nil (P := Tryd.prog) w 22 52 (some ad) 0 cap 0 0 Tryd.underlying22
      have HR := hid (show (w.alloc (.cells #[] 52)).ownsRow 0 52 1 (.slice (some ⟨w.heap.size, 0, none⟩) 0 0) 0 [] from World.ownsRow_lit (base := 0) (e := 52) (size := 1) w #[] 0 (Nat.zero_le _) (by decide) rfl)
      clear hA hm
      go_enter Tryd.func18, Tryd.ntmps18
      go_wp2_with (at_builtin; refine append_um rfl _ _ rfl (.slice (some ⟨w.heap.size, 0, none⟩) 0 0) 0 [] rfl HR.out (some ad) 0 cap [] rfl rfl (fun e => (by cases e)) (CQ.nil _ (fun _ => True) _) (by omega) ?_; intro v' w3 G3; have HG := hid G3; clear G3)
      go_ret
      have hG := HG.out
      obtain ⟨a, c, e, _, hn, hcq⟩ := own_cq hG.1
      refine ⟨a, c, by rw [e]; rfl, ⟨CQ.nil _ _ _, hn⟩, ?_⟩
      exact ((Touch.refl _ w).alloc _).then hG.touch (fun k hk c => by cases c; exact absurd hk (Nat.lt_irrefl _))
    · obtain ⟨u, l, rfl⟩ := List.exists_cons_of_ne_nil h0
      obtain ⟨b, o', e, _⟩ := hA.at_ 0 (U8 u) rfl
      obtain rfl : ad = ⟨b, o', none⟩ := by simpa using e
      exact uclone_some b o' cap m _ hm w hl hA.at_
end Go.Proofs.YtcablnjhfocogaaDoor

/- A log's small calls. -/
namespace Go.Proofs.YtcablnjhfocogaaDoor
open Go.RowKit

end Go.Proofs.YtcablnjhfocogaaDoor

/- A group's records. -/
namespace Go.Proofs.YtcablnjhfocogaaDoor
open Go.RowKit

set_option maxRecDepth 100000 in
/-- What lies above a reader may turn. -/
theorem RD.above {w w' : World} {T : Nat → Prop} {p : Nat} {s : M.St} (h : RD w (Ptr p) s) (hT : Touch T w w') (hp : ∀ k, T k → p < k) : RD w' (Ptr p) s := by
  rcases h with ⟨e, _⟩ | ⟨q, e, hb, hs⟩ | ⟨q, e, hR⟩
  · cases e
  · obtain rfl : p = q := by simpa using e
    exact .inr (.inl ⟨p, rfl, hT.at' hb (fun c => by have := hp p c; omega), hs⟩)
  · obtain rfl : p = q := by simpa using e
    obtain ⟨a, cap, hb, hL⟩ := hR.box
    refine .inr (.inr ⟨p, rfl, ⟨⟨a, cap, hT.at' hb (fun c => by have := hp p c; omega), ⟨hL.at_.block (fun b o e hb => hT.block b hb (fun c => by have h1 : b < p := (hL.low _ e).2; have := hp b c; omega)), hL.room, hL.non, hL.low⟩⟩, hR.good, hR.len, hR.err⟩⟩)
/-- A list of slices in new memory. -/
structure Fresh (B : Nat) (w : World) (v : Value) (hs : List Part) : Prop where
  rows : w.ownsRow 0 59 1 v hs.length (hs.map PV)
  own : ∀ k, v.ownBlock = some k → B ≤ k
  data : ∀ x ∈ hs, PQ w (fun k => B ≤ k ∧ v.ownBlock ≠ some k) x
theorem Fresh.touch {B : Nat} {w w' : World} {T : Nat → Prop} {v : Value} {hs : List Part} (h : Fresh B w v hs) (hT : Touch T w w') (hn : ∀ k, B ≤ k → ¬ T k) : Fresh B w' v hs :=
  ⟨row_touch h.rows hT (fun k hk => hn k (h.own k hk)), h.own, fun x hx => (h.data x hx).touch hT (fun k q => hn k q.1)⟩
theorem Fresh.low {B C : Nat} {w : World} {v : Value} {hs : List Part} (h : Fresh B w v hs) (hB : C ≤ B) : Fresh C w v hs :=
  ⟨h.rows, fun k hk => Nat.le_trans hB (h.own k hk), fun x hx => (h.data x hx).mono (fun _ _ q => ⟨Nat.le_trans hB q.1, q.2⟩)⟩
theorem Fresh.nil (B : Nat) (w : World) : Fresh B w (.slice none 0 0) [] := ⟨World.ownsRow_nil _ _ _ _, fun _ hk => (by cases hk), fun _ hx => (by cases hx)⟩
set_option maxRecDepth 100000 in
/-- One more. -/
theorem Fresh.more {B : Nat} {w w1 w2 : World} {v v' : Value} {hs : List Part} {x : Part} (h : Fresh B w v hs) (hA : Adds w w1) (hG : Grew w1 w2 59 v v' (hs.length + 1) (hs.map PV ++ [PV x])) (hB : B ≤ w.heap.size) (hx : PQ w1 (fun k => B ≤ k ∧ v.ownBlock ≠ some k) x) : Fresh B w2 v' (hs ++ [x]) := by
  have hw := hA.size
  have hlt : ∀ k, k < w1.heap.size → v.ownBlock ≠ some k → v'.ownBlock ≠ some k := fun k hk hn c => by
    rcases hG.2.2 with e | e
    · exact hn (by rw [← e]; exact c)
    · rw [e] at c; cases c; omega
  refine ⟨by rw [List.length_append, List.map_append]; exact hG.1, hG.lt (by omega) h.own, fun y hy => ?_⟩
  rcases List.mem_append.1 hy with hy | hy
  · have q := ((h.data y hy).adds hA).mono (Q' := fun k => B ≤ k ∧ v.ownBlock ≠ some k ∧ v'.ownBlock ≠ some k) (fun k hk q => ⟨q.1, q.2, hlt k hk q.2⟩)
    exact (q.touch hG.touch (fun k q => q.2.1)).mono (fun k _ q => ⟨q.1, q.2.2⟩)
  · obtain rfl := List.mem_singleton.1 hy
    have q := hx.mono (Q' := fun k => B ≤ k ∧ v.ownBlock ≠ some k ∧ v'.ownBlock ≠ some k) (fun k hk q => ⟨q.1, q.2, hlt k hk q.2⟩)
    exact (q.touch hG.touch (fun k q => q.2.1)).mono (fun k _ q => ⟨q.1, q.2.2⟩)
/-- What records tells. -/
def PRecs (w : World) (ls : List (List UInt8)) (e : Ending) (w' : World) : Prop := ∃ v hs, e = .returned v ∧ Hid (Fresh w.heap.size w' v hs ∧ hs.map (·.bs) = ls ∧ Adds w w')

set_option maxRecDepth 100000 in
theorem str_part (bs : List UInt8) (w : World) : ∃ cap w1, (convert 9 59 (.string ⟨bs.toArray⟩)).run Tryd.prog w = .ok (.slice (some ⟨w.heap.size, 0, none⟩) bs.length cap) w1 ∧ PQ w1 (fun k => k = w.heap.size) ⟨some ⟨w.heap.size, 0, none⟩, bs, cap⟩ ∧ Adds w w1 := by
  obtain ⟨cap, w1, h1, h2, h3⟩ := str_bytes bs w
  exact ⟨cap, w1, h1, ⟨h2.cq (fun b o e => by cases e; rfl), fun e => by cases e⟩, h3⟩

end Go.Proofs.YtcablnjhfocogaaDoor

/- A group's pieces. -/
namespace Go.Proofs.YtcablnjhfocogaaDoor
open Go.RowKit

def W.pieces (g : List UInt8) : List (List UInt8) := (List.range (W.secs g.length)).map (W.piece (W.full g))
set_option maxRecDepth 100000 in
theorem run_mid (b len cap l h : Nat) (h1 : l < h) (h2 : h ≤ cap) (w : World) : (Instr.sliceAt 59 (.slice (some ⟨b, 0, none⟩) len cap) (some (.int .i64 (l : Int))) (some (.int .i64 (h : Int))) (some (.int .i64 (h : Int)))).run Tryd.prog w = .ok (.slice (some ⟨b, l, none⟩) (h - l) (h - l)) w := by
  have hsz : (sizeOf 5).run Tryd.prog w = .ok 1 w := by kernel_rfl
  rw [run_sliceAt_slice w 59 _ _ _ _ Tryd.underlying59, run_slice_lhm w 59 _ len cap Tryd.underlying59 .i64 .i64 .i64 l h h (by omega) (by omega) (by omega) (by omega)]
  have he : Tryd.prog.elem 59 = 5 := by kernel_rfl
  rw [he, hsz]
  simp only [Result.andThen, sliced, Int.toNat_natCast, Nat.mul_one]
  rw [if_neg (by omega)]
  simp [Addr.add_mid]

set_option maxRecDepth 100000 in
theorem cut_mem {w w2 wr w5 : World} {v v5 : Value} {hs : List Part} {g : List UInt8} {ab ac n k sc X PL : Nat} {i : Value} (hF : Fresh w.heap.size wr v hs) (hbs : hs.map (·.bs) = (List.range k).map (W.piece (W.full g))) (hv : ∀ j, v.ownBlock = some j → w2.heap.size ≤ j) (hA : Adds w2 wr)
    (ho : w2.ownsRow X 5 1 (.slice (some ⟨ab, 0, none⟩) (4 + n) ac) (4 + n) (S (W.full g))) (hab : X ≤ ab) (hX : w.heap.size ≤ X) (hlen : hs.length = k) (hlt : k < sc)
    (hG : Grew (wr.alloc (.cells #[.slice (some ⟨ab, 233 * k, none⟩) PL PL] 59)) w5 59 v v5 (k + 1) (hs.map PV ++ [.slice (some ⟨ab, 233 * k, none⟩) PL PL])) (hP : PL = (W.piece (W.full g) k).length) (hi : i = .int .i64 ((233 * (k + 1) : Nat) : Int)) :
    ∃ (k' : Nat) (hs' : List Part), k' ≤ sc ∧ i = .int .i64 ((233 * k' : Nat) : Int) ∧ hs'.length = k' ∧ Hid (Fresh w.heap.size w5 v5 hs' ∧ hs'.map (·.bs) = (List.range k').map (W.piece (W.full g)) ∧ (∀ j, v5.ownBlock = some j → w2.heap.size ≤ j) ∧ Adds w2 w5) := by
  subst hP
  have hAt : At wr (some ⟨ab, 233 * k, none⟩) (W.piece (W.full g) k) := by
    have := (((At.own ho).suf (233 * k)).pre 233).adds hA
    rwa [Nat.zero_add] at this
  have hlow := (row_low (k := ab) ho rfl).2
  have hsz := hA.size
  refine ⟨k + 1, hs ++ [⟨some ⟨ab, 233 * k, none⟩, W.piece (W.full g) k, (W.piece (W.full g) k).length⟩], hlt, hi, by rw [List.length_append, hlen]; rfl, ?_, ?_, ?_, ?_⟩
  · refine hF.more ((Touch.refl _ wr).alloc _) (by rw [hlen]; exact hG) (by omega) ⟨(hAt.adds ((Touch.refl _ wr).alloc _)).cq (fun b o e => by cases e; exact ⟨by omega, fun c => by have := hv _ c; omega⟩), fun e => by cases e⟩
  · rw [List.map_append, hbs, List.range_succ, List.map_append]; rfl
  · exact hG.lt (by simp; omega) hv
  · exact (hA.alloc _).then hG.touch (fun j hj c => by have := hv j c; omega)
end Go.Proofs.YtcablnjhfocogaaDoor

/- A log in memory; Drop, Begin, Append. -/
namespace Go.Proofs.YtcablnjhfocogaaDoor
open Go.RowKit

/-- A log's state: its sectors, its epoch, is it closed, the groups' bytes, the records that wait. -/
structure LS where
  fr : Nat
  ct : Nat
  ep : Nat
  cl : Bool
  G : List (List UInt8)
  R : List (List UInt8)
/-- A state that may be. -/
structure LS.Ok (L : LS) : Prop where
  fr : L.fr ≤ 4096
  ct : L.ct ≤ 10000
  ep : L.ep ≤ 1000000000
  us : W.usedOf L.G ≤ L.ct
  wt : L.R ≠ [] → W.secs (W.gbytes L.R).length ≤ L.ct - W.usedOf L.G
  good : ∀ g ∈ L.G, W.Good g
set_option maxRecDepth 100000 in
theorem secs_len {n m : Nat} (h : W.secs n ≤ m) : n ≤ 233 * m := by unfold W.secs at h; omega
set_option maxRecDepth 100000 in
theorem texts_le (R : List (List UInt8)) : (W.texts R).length ≤ (W.gbytes R).length := by rw [W.gbytes, List.length_append]; omega
set_option maxRecDepth 100000 in
theorem LS.Ok.len {L : LS} (h : L.Ok) : (W.texts L.R).length ≤ 2330000 ∧ L.R.length ≤ 2330000 := by
  by_cases hR : L.R = []
  · rw [hR]; simp [W.texts]
  · have h1 := secs_len (h.wt hR)
    have h2 := texts_le L.R
    have h3 := W.texts_len L.R
    have h4 := h.ct
    omega

/-- Where a group's bytes may lie. -/
def DQ (O : Nat → Prop) (l : Nat) (gv tv : Value) : Nat → Prop := fun k => O k ∧ k ≠ l ∧ gv.ownBlock ≠ some k ∧ tv.ownBlock ≠ some k
set_option maxRecDepth 100000 in
theorem type_ne {w : World} {k l : Nat} {c d : Array Value} {t u : TypeId} {f g : Nat × Nat} (h : w.heap[k]? = some (.cells c t f)) (h' : w.heap[l]? = some (.cells d u g)) (hne : t ≠ u) : k ≠ l := by
  intro e; subst e
  rw [h] at h'
  simp at h'
  exact hne h'.2.1
/-! ### Drop -/
/-! ### Begin -/
end Go.Proofs.YtcablnjhfocogaaDoor
