/- What an act of a pair of masters leaves: states that fit; losses. -/
import Derived.Test.YtmmgfankbabfbaaDoorQ47
import Derived.Test.YtmmgfankbabfbaaDoorQ36
namespace Go.Proofs.YtmmgfankbabfbaaDoor
open Go.RowKit
theorem goW_sizeU {f : Nat → Int × List UInt8} : ∀ {r i : Nat} {D : dSt}, (goW f r i D).2.size = D.size
  | 0, i, D => by
    unfold goW
    split
    · rfl
    · rfl
  | r + 1, i, D => by
    unfold goW
    split
    · rfl
    · rw [goW_sizeU (r := r) (i := i + 1)]; rfl
/-- States of a law's pair, behind steps of at most n. -/
structure Fit10 (L : U.MS) (D : dSt) (n : Nat) : Prop where
  ok : L.Ok
  fits : (L.at_ : Int) + 2 ≤ D.size
  size : D.size ≤ 6
  dok : DOk D n
theorem Fit10.mono {L : U.MS} {D : dSt} {n m : Nat} (h : Fit10 L D n) (hm : n ≤ m) : Fit10 L D m := ⟨h.ok, h.fits, h.size, h.dok.mono hm⟩
set_option maxRecDepth 100000 in
theorem put_ok {s : U.MS} {i : Nat} {sl : U.Sl} (h : s.Ok) (hs : sl.Ok) : (s.put i sl).Ok ∧ (s.put i sl).at_ = s.at_ := by
  unfold U.MS.put
  split
  · exact ⟨⟨h.at_, hs, h.b⟩, rfl⟩
  · exact ⟨⟨h.at_, h.a, hs⟩, rfl⟩
set_option maxRecDepth 100000 in
theorem Fit10.save {L : U.MS} {D : dSt} {n : Nat} (h : Fit10 L D n) (ns : List Nat) (hF : ∀ k ∈ ns, k < 18446744073709551616) (e : Int) : Fit10 (savM L ns e D) (savD L ns e D) (n + 11) := by
  unfold savM savD
  by_cases hb : e ≤ L.lat.ep ∨ 1000000000 < e
  · rw [if_pos hb, if_pos hb]
    exact h.mono (by omega)
  · rw [if_neg hb, if_neg hb]
    by_cases hl : 20 < ns.length
    · rw [if_pos hl, if_pos hl]
      exact h.mono (by omega)
    · rw [if_neg hl, if_neg hl]
      have hd : DOk (savR L ns e.toNat D).2 (n + 11) := (goW_ok (f := fun _ => savW L ns e.toNat) (i := 0) (r := 1) h.dok).mono (by omega)
      have hs : (savR L ns e.toNat D).2.size = D.size := goW_sizeU
      have hf := h.fits
      have hz := h.size
      by_cases hr : (savR L ns e.toNat D).1 = 0
      · rw [if_pos hr]
        obtain ⟨h1, h2⟩ := put_ok (i := L.other) (sl := ⟨e.toNat, ns⟩) h.ok ⟨by show e.toNat ≤ 1000000000; omega, by show ns.length ≤ 20; omega, hF⟩
        exact ⟨h1, by rw [h2, hs]; exact hf, by rw [hs]; exact hz, hd⟩
      · rw [if_neg hr]
        exact ⟨h.ok, by rw [hs]; exact hf, by rw [hs]; exact hz, hd⟩
set_option maxRecDepth 100000 in
theorem Fit10.cut {L : U.MS} {D : dSt} {n : Nat} (h : Fit10 L D n) (z : Int) (hz : z ≤ 9223372036854775807) : Fit10 L (cutD D z) (n + 11) := by
  unfold cutD
  split
  · have k := h.dok
    have := k.steps1
    have := k.waits
    refine ⟨h.ok, h.fits, h.size, ⟨by show D.W.length ≤ _; omega, k.steps0, by show D.steps ≤ _; omega, ?_, ?_, k.size⟩⟩
    · show -1 ≤ if D.left = 0 then 0 else z
      split <;> omega
    · show (if D.left = 0 then 0 else z) ≤ _
      split <;> omega
  · exact h.mono (by omega)
set_option maxRecDepth 100000 in
theorem Fit10.spoil {L : U.MS} {D : dSt} {n : Nat} (h : Fit10 L D n) (i a : Int) (b : UInt8) : Fit10 L (spoilD D i a b) (n + 11) := by
  unfold spoilD
  split
  · have k := h.dok
    have := k.steps1
    have := k.waits
    exact ⟨h.ok, h.fits, h.size, ⟨by show (D.W.map _).length ≤ _; rw [List.length_map]; omega, k.steps0, by show D.steps ≤ _; omega, k.left0, k.left1, k.size⟩⟩
  · exact h.mono (by omega)
theorem Fit10.lost {L : U.MS} {D : dSt} {n : Nat} (h : Fit10 L D n) (ks : List Bool) (torn at_ : Int) : Fit10 L (D.lost ks torn at_) (n + 11) :=
  ⟨h.ok, h.fits, h.size, ⟨Nat.zero_le _, Int.le_refl _, by show (0 : Int) ≤ _; omega, by show (-1 : Int) ≤ -1; decide, by show (-1 : Int) ≤ _; decide, h.dok.size⟩⟩
set_option maxRecDepth 100000 in
theorem Fit10.open {D : dSt} {n : Nat} {at_ : Int} (h : op10 D at_) (hs : D.size ≤ 6) (hd : DOk D n) : Fit10 (msAt D at_.toNat) D n := by
  unfold op10 at h
  exact ⟨⟨by show at_.toNat ≤ 4096; omega, U.slot_ok _, U.slot_ok _⟩, by show ((at_.toNat : Nat) : Int) + 2 ≤ D.size; omega, hs, hd⟩
/-- What an act leaves. -/
def PDo10 (w0 : World) (pp n : Nat) (e : Ending) (w' : World) : Prop := e = .returned (.bool true) ∧ Hid (∃ l d q r L D, MwE w0 w' [(pp, PB10 d r (Ptr l) (Ptr q))] l d q r L L D D ∧ Fit10 L D n)
/-- How much greater an epoch is to be. -/
def more4 (z : Int) : Nat := (z % 18446744073709551616).toNat % 4
set_option maxRecDepth 100000 in
theorem more4_wrap (z : Int) : wrap64 ((IntKind.u64.wrap z).tmod 4) = (more4 z : Int) := by
  have h1 : IntKind.u64.wrap z = z % 18446744073709551616 := by rw [IntKind.wrap_u64]
  have h0 : 0 ≤ z % 18446744073709551616 := Int.emod_nonneg _ (by decide)
  rw [h1, Int.tmod_eq_emod_of_nonneg h0]
  unfold wrap64 more4
  omega
/-- The act's cells. -/
abbrev act10 (k n p : Int) (fa : Option Addr) (fn fc : Nat) (c : UInt8) (ka : Option Addr) (kn kc : Nat) (torn at_ : Int) : Array Value := #[.int .i64 k, .int .i64 n, .int .i64 p, .slice fa fn fc, .int .u8 (c.toNat : Int), .slice ka kn kc, .int .i64 torn, .int .i64 at_]
set_option maxRecDepth 100000 in
theorem nq_take {w : World} {Q : Nat → Prop} {a : Option Addr} {cap m : Nat} {ns : List Nat} (h : NQ w Q ⟨a, cap, ns⟩) : NQ w Q ⟨a, cap, ns.take m⟩ := by
  refine ⟨fun j v hj => ?_, h.non⟩
  refine h.at_ j v ?_
  rw [N8_get] at hj ⊢
  rw [show ({ a := a, cap := cap, ns := ns.take m } : NPart).ns = ns.take m from rfl] at hj
  obtain ⟨n, hn, rfl⟩ := Option.map_eq_some_iff.1 hj
  rw [List.getElem?_take] at hn
  split at hn
  · show Option.map U8 ns[j]? = _
    rw [hn]; rfl
  · cases hn
theorem KeptAt.adds {w w' : World} {ka : Option Addr} {ks : List Bool} (h : KeptAt w ka ks) (hA : Adds w w') : KeptAt w' ka ks := fun j hj => by
  obtain ⟨b, o, e, hc⟩ := h j hj
  exact ⟨b, o, e, below_adds hA hc⟩
set_option maxRecDepth 100000 in
/-- Both disks behind a loss. -/
theorem MwE.lost {w0 w w2 w3 : World} {X : List (Nat × Obj)} {l d q r d2 r2 : Nat} {L L' : U.MS} {D D' E : dSt} (h : MwE w0 w X l d q r L L' D D') (h2 : ∃ OD, IsDO w2 OD d2 E ∧ (∀ k, OD k → w.heap.size ≤ k ∧ k < w2.heap.size) ∧ Adds w w2) (h3 : ∃ OR, IsRO w3 OR r2 E ∧ (∀ k, OR k → w2.heap.size ≤ k ∧ k < w3.heap.size) ∧ Adds w2 w3) : PdE w0 w3 X d2 r2 E E := by
  obtain ⟨OD, a1, a2, a3⟩ := h2
  obtain ⟨OR, b1, b2, b3⟩ := h3
  obtain ⟨OL, OD0, OQ, OR0, h⟩ := h
  have z0 := h.wl.adds.size
  have z1 := a3.size
  have z2 := b3.size
  refine ⟨OD, OR, a1.adds b3, b1, fun k c c' => ?_, fun k c => ?_, fun k c => ?_, h.wl.adds.trans (a3.trans b3), fun x hx => ⟨(a3.trans b3).at' (h.oth x hx).1 id, fun c => ?_⟩⟩
  · have := a2 k c; have := b2 k c'; omega
  · rcases c with c | c
    · have := a2 k c; omega
    · have := b2 k c; omega
  · rcases c with c | c
    · have := a2 k c; omega
    · exact (b2 k c).2
  · have hl := h.olt hx
    rcases c with c | c
    · have := a2 _ c; omega
    · have := b2 _ c; omega
set_option maxRecDepth 100000 in
/-- The pair's box turns. -/
theorem PdE.box {w0 w w' : World} {d r d2 r2 pp : Nat} {o o' : Obj} {X : List (Nat × Obj)} {D D' : dSt} (h : PdE w0 w X d r D D') (hm : (pp, o) ∈ X) (hT : Touch (fun k => k = pp) w w') (hpp : w0.heap.size ≤ pp) (ho : w'.heap[pp]? = some o') (_ : d2 = d) (_ : r2 = r) : PdE w0 w' [(pp, o')] d r D D' := by
  obtain ⟨OD, OR, h⟩ := h
  have hn := (h.oth _ hm).2
  refine ⟨OD, OR, h.dk.touch hT (fun k c e => hn (.inl (by rw [← e]; exact c))), h.ro.touch hT (fun k c e => hn (.inr (by rw [← e]; exact c))), h.ap, h.low, fun k c => Nat.lt_of_lt_of_le (h.lt k c) hT.size, h.base.then hT (fun k hk c => by omega), fun x hx => ?_⟩
  obtain rfl := List.mem_singleton.1 hx
  exact ⟨ho, hn⟩
set_option maxRecDepth 100000 in
theorem ref_lost {w w' : World} {E : dSt} {e : Ending} (h : PRLose w w.heap.size E e w') : ∃ p, e = .returned (.tuple #[Ptr p, .int .i64 0]) ∧ Hid (∃ OR, IsRO w' OR p E ∧ (∀ k, OR k → w.heap.size ≤ k ∧ k < w'.heap.size) ∧ Adds w w') := by
  obtain ⟨p, hv, he, hp, hr, hA⟩ := h
  refine ⟨p, he, fun k => w.heap.size ≤ k ∧ k < w'.heap.size, ⟨hv, _, hr.mono (Nat.zero_le _), ⟨hp, (Array.getElem?_eq_some_iff.1 hr.box).1⟩, fun k hk => ?_, fun k hk => (by cases hk)⟩, fun k c => c, hA⟩
  obtain ⟨_, hc⟩ := own_type hr.held hk
  refine ⟨?_, (Array.getElem?_eq_some_iff.1 hc).1⟩
  rcases hr.held.2 with ⟨c, _⟩ | ⟨g, cap, cur, c, hb, _⟩
  · rw [c] at hk; cases hk
  · rw [c] at hk
    obtain rfl : g = k := by simpa [Value.ownBlock] using hk
    exact hb
set_option maxRecDepth 100000 in
theorem rlose_fresh (p : Nat) (hv wv : Value) (D : dSt) (ka : Option Addr) (kc : Nat) (ks : List Bool) (torn at_ : Int) (w : World) (hd : IsRef w 0 p hv wv D) (hl : D.W.length ≤ 1000) (hk : KeptAt w ka ks) (hkn : ks.length ≤ 9223372036854775807) (hat : 0 ≤ torn ∧ torn < D.W.length → 0 ≤ at_ ∧ at_ ≤ 256) :
    Calls Tryd.prog 27 #[Ptr p, .agg #[.slice ka ks.length kc, .int .i64 torn, .int .i64 at_]] w (fun e w' => ∃ p', e = .returned (.tuple #[Ptr p', .int .i64 0]) ∧ Hid (∃ OR, IsRO w' OR p' (D.lost ks torn at_) ∧ (∀ k, OR k → w.heap.size ≤ k ∧ k < w'.heap.size) ∧ Adds w w')) := by
  refine (rlose_ok 0 w.heap.size p hv wv D ka kc ks torn at_ w hd hl (Nat.le_refl _) hk hkn hat).mono ?_
  intro e w' h
  exact ref_lost h
set_option maxRecDepth 100000 in
/-- The reference's box. -/
theorem MwE.qbox {w0 w : World} {X : List (Nat × Obj)} {l d q r : Nat} {L L' : U.MS} {D D' : dSt} (h : MwE w0 w X l d q r L L' D D') : ∃ va vb vc vd, w.heap[q]? = some (.cells #[Ptr r, .int .i64 (L'.at_ : Int), va, vb, vc, vd] 88 (0, 0)) := by
  obtain ⟨OL, OD, OQ, OR, h⟩ := h
  obtain ⟨x, y, hq⟩ := h.isq
  exact ⟨_, _, _, _, hq.box⟩
set_option maxRecDepth 100000 in
theorem pd_new10 {w w1 w2 : World} {p hb r : Nat} {n : Int} (hp : w.heap.size ≤ p) (hhb : w.heap.size ≤ hb) (hd : IsDisk w1 w.heap.size p hb (.slice none 0 0) (dSt.new n)) (hA : Adds w w1) (h2 : ∃ OR, IsRO w2 OR r (dSt.new n) ∧ (∀ k, OR k → w1.heap.size ≤ k ∧ k < w2.heap.size) ∧ Adds w1 w2) (o : Obj) :
    PdE w (w2.alloc o) [(w2.heap.size, o)] p r (dSt.new n) (dSt.new n) := by
  obtain ⟨OR, b1, b2, b3⟩ := h2
  have q1 := (Array.getElem?_eq_some_iff.1 hd.box).1
  obtain ⟨es, cl, q2, _⟩ := hd.held
  have q2 := (Array.getElem?_eq_some_iff.1 q2).1
  have z1 := hA.size
  have z2 := b3.size
  have hA4 : Adds w2 (w2.alloc o) := (Touch.refl _ w2).alloc _
  have z3 := hA4.size
  have od : ∀ k, (k = p ∨ k = hb) → w.heap.size ≤ k ∧ k < w1.heap.size := fun k c => by rcases c with rfl | rfl <;> omega
  refine ⟨fun k => k = p ∨ k = hb, OR, (show IsDO w1 (fun k => k = p ∨ k = hb) p (dSt.new n) from ⟨hb, _, hd.mono (Nat.zero_le _), .inl rfl, .inr rfl, fun k hk => (by cases hk)⟩).adds (b3.trans hA4), b1.adds hA4, fun k c c' => ?_, fun k c => ?_, fun k c => ?_, hA.trans (b3.trans hA4), fun x hx => ?_⟩
  · have := od k c; have := b2 k c'; omega
  · rcases c with c | c
    · exact (od k c).1
    · have := b2 k c; omega
  · rcases c with c | c
    · have := od k c; omega
    · have := b2 k c; omega
  · obtain rfl := List.mem_singleton.1 hx
    refine ⟨heap_alloc_new w2 o, fun c => ?_⟩
    rcases c with c | c
    · have h1 := od w2.heap.size c; omega
    · have h1 := b2 w2.heap.size c; omega
end Go.Proofs.YtmmgfankbabfbaaDoor
