/- Texts put together: NParses, NChanges. -/
import Derived.Test.YtplppnngmlljnaaQ17
import Derived.Test.YtplppnngmlljnaaQ19
import Derived.Test.YtplppnngmlljnaaQ13
import Derived.Test.YtplppnngmlljnaaQ18
/- NodeParses. -/
namespace Go.Proofs.Ytplppnngmlljnaa
open Go.RowKit

end Go.Proofs.Ytplppnngmlljnaa

/- NodeChanges. -/
namespace Go.Proofs.Ytplppnngmlljnaa
open Go.RowKit

/-- Only what is newer than a mark has turned. -/
def Late (wI wx : World) : Prop := Touch (fun j => wI.heap.size ≤ j) wI wx
theorem Late.refl (w : World) : Late w w := Touch.refl _ w
theorem Late.adds {wI wx w' : World} (h : Late wI wx) (hA : Adds wx w') : Late wI w' := Touch.trans h (hA.mono (fun _ _ c => c.elim))
theorem Late.more {wI wx w' : World} {B : Nat} (h : Late wI wx) (hT : Touch (fun j => B ≤ j) wx w') (hB : wI.heap.size ≤ B) : Late wI w' := Touch.trans h (hT.mono (fun _ _ c => Nat.le_trans hB c))
theorem Late.row {wI wx : World} {N : Nat} (h : Late wI wx) (hN : wI.heap.size ≤ N) (cs : Array Value) : Late wI (wx.setRow N cs) := Touch.trans h ((touch_row wx N cs).mono (fun _ _ c => by subst c; exact hN))
theorem Late.box {wI wx : World} {N : Nat} {o : Obj} (h : Late wI wx) (hb : wI.heap[N]? = some o) : wx.heap[N]? = some o := by
  have hl := (Array.getElem?_eq_some_iff.1 hb).1
  rw [h.block N hl (fun c => by omega)]; exact hb
theorem Late.own {wI wx : World} {B : Nat} {z : NM} (h : Late wI wx) (ho : NOwn wI B z) : NOwn wx B z :=
  ⟨row_touch ho.keys h (fun j hj c => by have := row_lt ho.keys hj; omega), row_touch ho.vals h (fun j hj c => by have := row_lt ho.vals hj; omega), fun p hp => (ho.each p hp).touch h (fun k hk cs fr e => by have := (Array.getElem?_eq_some_iff.1 e).1; omega), row_touch ho.kids h (fun j hj c => by have := row_lt ho.kids hj; omega)⟩
theorem Late.nq {wI wx : World} {Q : Nat → Prop} {z : NM} (h : Late wI wx) (ho : NQ wI Q z) : NQ wx Q z := ((ho.mono (Q' := fun k => Q k ∧ k < wI.heap.size) (fun k hk hq => ⟨hq, hk⟩)).touch h (fun k hk c => by have := hk.2; omega)).mono (fun _ _ hk => hk.1)
theorem Late.pq {wI wx : World} {Q : Nat → Prop} {p : Part} (h : Late wI wx) (ho : PQ wI Q p) : PQ wx Q p := ((ho.mono (Q' := fun k => Q k ∧ k < wI.heap.size) (fun k hk hq => ⟨hq, hk⟩)).touch h (fun k hk c => by have := hk.2; omega)).mono (fun _ _ hk => hk.1)
theorem Late.from {w wI wx : World} (h : Late wI wx) (hA : Adds w wI) : Adds w wx := hA.then h (fun j hj e => by have := hA.size; omega)
/-- Both copies put into their blocks. -/
theorem copy_end {w w5 : World} {N13 N14 : Nat} {zx zy : NM} (hx : NOwn w5 w.heap.size zx) (hy : NOwn w5 w.heap.size zy) (h13 : w5.heap[N13]? = some NZ) (h14 : w5.heap[N14]? = some NZ) (hne : N13 ≠ N14) (hA : Adds w w5) (hL : w.heap.size ≤ N13) (hL2 : w.heap.size ≤ N14) (a1 a2 : Array Value) :
    NOwn ((w5.setRow N13 a1).setRow N14 a2) w.heap.size zx ∧ NOwn ((w5.setRow N13 a1).setRow N14 a2) w.heap.size zy ∧ ((w5.setRow N13 a1).setRow N14 a2).heap[N13]? = some (.cells a1 28 (0, 0)) ∧ ((w5.setRow N13 a1).setRow N14 a2).heap[N14]? = some (.cells a2 28 (0, 0)) ∧ Adds w ((w5.setRow N13 a1).setRow N14 a2) ∧ (w5.setRow N13 a1).heap[N14]? = some NZ := by
  have q := two_store (a1 := a1) (a2 := a2) hx h13 h14 hne hA hL hL2
  have q2 := two_store (a1 := a1) (a2 := a2) hy h13 h14 hne hA hL hL2
  exact ⟨q.1, q2.1, q.2.1, q.2.2.1, q.2.2.2.1, q.2.2.2.2⟩
/-- A node of the reference's put into a block that was there. -/
theorem rput {w1 w7 : World} {N6 : Nat} {z : NM} {n : N.Nd} {Q : Nat → Prop} {cs0 cs : Array Value} (h : z.nd = n ∧ NQ w7 Q z ∧ Adds w1 w7) (hb : w7.heap[N6]? = some (.cells cs0 26 (0, 0))) (hQ : ∀ k, Q k → k ≠ N6) : NQ (w7.setRow N6 cs) Q z ∧ (w7.setRow N6 cs).heap[N6]? = some (.cells cs 26 (0, 0)) :=
  ⟨h.2.1.touch (touch_row w7 N6 cs) (fun k hk c => hQ k hk c), setRow_heap _ _ _ _ 26 _ hb⟩
theorem insert_bd {n : N.Nd} {i : Int} {key val : List UInt8} {kid : Int} (h : N.Bd 200 n) (hk : key.length ≤ 1000) (hv : val.length ≤ 1000) : N.Bd 900 (N.insert n i key val kid).1 := by
  unfold N.insert
  split
  · exact N.Bd.nil.mono (Nat.zero_le _)
  · split
    · exact N.Bd.nil.mono (Nat.zero_le _)
    · have hy : N.Bd 1 (⟨false, [key], [val], [kid]⟩ : N.Nd) := ⟨Nat.le_refl _, Nat.le_refl _, Nat.le_refl _, fun b hb => by rw [List.mem_singleton.1 hb]; exact hk, fun b hb => by rw [List.mem_singleton.1 hb]; exact hv⟩
      exact ((h.change hy (Nat.le_refl _)).mono (by decide)).told
theorem remove_bd {n : N.Nd} {i : Int} (h : N.Bd 200 n) : N.Bd 900 (N.remove n i).1 := by
  unfold N.remove
  split
  · exact N.Bd.nil.mono (Nat.zero_le _)
  · split
    · exact N.Bd.nil.mono (Nat.zero_le _)
    · exact ((h.without (Nat.le_succ _)).mono (by decide)).told
theorem cut_bd {n : N.Nd} (h : N.Bd 200 n) : N.Bd 900 (N.cutA n) ∧ N.Bd 900 (N.cutB n) := by
  have hm : N.middle n ≤ n.keys.length := N.mid_lt _ _
  constructor
  · unfold N.cutA
    split
    · exact (h.without hm).mono (by decide)
    · exact N.Bd.nil.mono (Nat.zero_le _)
  · unfold N.cutB
    split
    · exact (h.without (Nat.zero_le _)).mono (by decide)
    · exact N.Bd.nil.mono (Nat.zero_le _)
theorem join_bd {n m : N.Nd} {key : List UInt8} (h : N.Bd 200 n) (h2 : N.Bd 200 m) (hk : key.length ≤ 1000) : N.Bd 900 (N.join n key m).1 := by
  unfold N.join
  split
  · exact N.Bd.nil.mono (Nat.zero_le _)
  · rename_i hc
    have hr : N.right m = true := by
      cases hm : N.right m with
      | true => rfl
      | false => exact absurd (.inr (.inl hm)) hc
    exact ((h.change (N.joinB_bd h2 hr hk) (Nat.le_refl _)).mono (by decide)).told
theorem nd_ns {m : Nat} {z : NM} {n : N.Nd} (h : z.nd = n) (hb : N.Bd m n) (hm : m ≤ 1000) : NS z := N.Bd.ns (m := m) (by rw [h]; exact hb) hm
/-- A node of one's own put into a block that was there. -/
theorem oput {w7 : World} {N6 B : Nat} {z : NM} {cs0 cs : Array Value} (h : NOwn w7 B z) (hb : w7.heap[N6]? = some (.cells cs0 28 (0, 0))) : NOwn (w7.setRow N6 cs) B z ∧ (w7.setRow N6 cs).heap[N6]? = some (.cells cs 28 (0, 0)) :=
  ⟨h.touch (touch_row _ _ _) hb, setRow_heap _ _ _ _ 28 _ hb⟩
theorem set_other {w : World} {N M : Nat} {cs : Array Value} {o : Obj} (h : w.heap[M]? = some o) (hne : M ≠ N) : (w.setRow N cs).heap[M]? = some o := by
  rw [(touch_row w N cs).block M (Array.getElem?_eq_some_iff.1 h).1 hne]; exact h
theorem types_ne {w : World} {N M : Nat} {cs cs' : Array Value} (h : w.heap[N]? = some (.cells cs 28 (0, 0))) (h' : w.heap[M]? = some (.cells cs' 26 (0, 0))) : N ≠ M := fun c => by
  subst c
  rw [h] at h'
  injection h' with e
  injection e with _ e2 _
  exact absurd e2 (by decide)
theorem PT.high {w w' : World} {T : Nat → Prop} {B : Nat} {p : Part} (h : PT w B p) (hT : Touch T w w') (hn : ∀ k, B ≤ k → ¬ T k) : PT w' B p := by
  have hsame : ∀ k, B ≤ k → k < w.heap.size → w'.heap[k]? = w.heap[k]? := fun k hk hl => hT.block k hl (hn k hk)
  refine ⟨⟨fun j u hj => ?_, h.q.non⟩, fun j hj b o e => ?_⟩
  · obtain ⟨b, o, e, hq, hc⟩ := h.q.at_ j u hj
    have hl := World.block_lt_of_cell? w _ hc
    have hs := hsame b hq.1 hl
    exact ⟨b, o, e, ⟨hq.1, by rw [hs]; exact hq.2⟩, by rw [World.cell?_of_block (w := w) hs]; exact hc⟩
  · obtain ⟨b', o', e', hq, hc⟩ := h.q.at_ j (B8 (p.bs[j]'hj)) (by rw [S_get, List.getElem?_eq_getElem hj]; rfl)
    rw [e] at e'
    injection e' with e1
    injection e1 with e2 e3 _
    subst e2
    have hl := World.block_lt_of_cell? w _ hc
    have hs := hsame b hq.1 hl
    rw [← h.fz j hj b o e]
    unfold World.frozen?
    rw [hs]
/-- What is newer stays when another one is spoilt. -/
theorem NOwn.high {w w' : World} {T : Nat → Prop} {B : Nat} {z : NM} (h : NOwn w B z) (hT : Touch T w w') (hn : ∀ k, B ≤ k → ¬ T k) : NOwn w' B z :=
  ⟨row_touch h.keys hT (fun j hj c => hn j (row_low h.keys hj).1 c), row_touch h.vals hT (fun j hj c => hn j (row_low h.vals hj).1 c), fun p hp => (h.each p hp).high hT hn, row_touch h.kids hT (fun j hj c => hn j (row_low h.kids hj).1 c)⟩
theorem blk_lt {C : Nat} {z : NM} (h : NLt C z) : ∀ j, Blk z j → j < C := fun j hj => by
  rcases hj with hj | hj | ⟨p, hp, h0, o, e⟩
  · exact h.1 j hj
  · exact h.2.2.1 j hj
  · exact h.2.2.2 p hp h0 j o e
/-- What a cut tells, the parts by name. -/
def PCq (w : World) (A B : N.Nd) (er : Int) (e : Ending) (w' : World) : Prop := ∃ (lP : Bool) (kaP : Option Addr) (kcP : Nat) (ksP : List (List UInt8)) (gP : Pl) (iaP : Option Addr) (icP : Nat) (isP : List Int) (lO : Bool) (kaO : Option Addr) (kcO : Nat) (ksO : List (List UInt8)) (gO : Pl) (iaO : Option Addr) (icO : Nat) (isO : List Int),
  e = .returned (.tuple #[.agg #[.bool lP, .slice kaP ksP.length kcP, .slice gP.a gP.l.length gP.cap, .slice iaP isP.length icP], .agg #[.bool lO, .slice kaO ksO.length kcO, .slice gO.a gO.l.length gO.cap, .slice iaO isO.length icO], .int .i64 er]) ∧ Hid ((⟨lP, kaP, kcP, ksP, gP, iaP, icP, isP⟩ : NM).nd = A ∧ (⟨lO, kaO, kcO, ksO, gO, iaO, icO, isO⟩ : NM).nd = B ∧ NOwn w' w.heap.size ⟨lP, kaP, kcP, ksP, gP, iaP, icP, isP⟩ ∧ NOwn w' w.heap.size ⟨lO, kaO, kcO, ksO, gO, iaO, icO, isO⟩ ∧ Adds w w' ∧ ∃ C, w.heap.size ≤ C ∧ NLt C ⟨lP, kaP, kcP, ksP, gP, iaP, icP, isP⟩ ∧ NOwn w' C ⟨lO, kaO, kcO, ksO, gO, iaO, icO, isO⟩)
theorem PCutN.q {f : Nat} {args : Array Value} {w : World} {A B : N.Nd} {er : Nat} (h : Calls Try.prog f args w (PCutN w A B er)) : Calls Try.prog f args w (PCq w A B (er : Int)) := by
  refine h.mono ?_
  rintro e w' ⟨zA, zB, rfl, H⟩
  obtain ⟨⟨e1, o1⟩, ⟨e2, o2⟩, hA', C, _, h3, h4⟩ := H.out
  refine ⟨zA.leaf, zA.ka, zA.kc, zA.ks, zA.v, zA.ia, zA.ic, zA.is, zB.leaf, zB.ka, zB.kc, zB.ks, zB.v, zB.ia, zB.ic, zB.is, rfl, e1, e2, o1, o2, hA', max C w.heap.size, Nat.le_max_right _ _, ?_, ?_⟩
  · exact ⟨fun j hj => Nat.lt_of_lt_of_le (h3.1 j hj) (Nat.le_max_left _ _), fun j hj => Nat.lt_of_lt_of_le (h3.2.1 j hj) (Nat.le_max_left _ _), fun j hj => Nat.lt_of_lt_of_le (h3.2.2.1 j hj) (Nat.le_max_left _ _), fun p hp h0 b o e => Nat.lt_of_lt_of_le (h3.2.2.2 p hp h0 b o e) (Nat.le_max_left _ _)⟩
  · rcases Nat.le_total C w.heap.size with q | q
    · rw [Nat.max_eq_right q]; exact o2
    · rw [Nat.max_eq_left q]; exact h4
/-- The same of the reference's. -/
def PRq (w : World) (Q : Nat → Prop) (A B : N.Nd) (er : Int) (e : Ending) (w' : World) : Prop := ∃ (lR : Bool) (kaR : Option Addr) (kcR : Nat) (ksR : List (List UInt8)) (gR : Pl) (iaR : Option Addr) (icR : Nat) (isR : List Int) (lS : Bool) (kaS : Option Addr) (kcS : Nat) (ksS : List (List UInt8)) (gS : Pl) (iaS : Option Addr) (icS : Nat) (isS : List Int),
  e = .returned (.tuple #[.agg #[.bool lR, .slice kaR ksR.length kcR, .slice gR.a gR.l.length gR.cap, .slice iaR isR.length icR], .agg #[.bool lS, .slice kaS ksS.length kcS, .slice gS.a gS.l.length gS.cap, .slice iaS isS.length icS], .int .i64 er]) ∧ Hid ((⟨lR, kaR, kcR, ksR, gR, iaR, icR, isR⟩ : NM).nd = A ∧ (⟨lS, kaS, kcS, ksS, gS, iaS, icS, isS⟩ : NM).nd = B ∧ NQ w' Q ⟨lR, kaR, kcR, ksR, gR, iaR, icR, isR⟩ ∧ NQ w' Q ⟨lS, kaS, kcS, ksS, gS, iaS, icS, isS⟩ ∧ Adds w w')
theorem PQCut.q {f : Nat} {args : Array Value} {w : World} {Q : Nat → Prop} {A B : N.Nd} {er : Nat} (h : Calls Try.prog f args w (PQCut w Q A B er)) : Calls Try.prog f args w (PRq w Q A B (er : Int)) := by
  refine h.mono ?_
  rintro e w' ⟨zA, zB, rfl, H⟩
  obtain ⟨⟨e1, o1⟩, ⟨e2, o2⟩, hA'⟩ := H.out
  exact ⟨zA.leaf, zA.ka, zA.kc, zA.ks, zA.v, zA.ia, zA.ic, zA.is, zB.leaf, zB.ka, zB.kc, zB.ks, zB.v, zB.ia, zB.ic, zB.is, rfl, e1, e2, o1, o2, hA'⟩
theorem PQTd.mono {f : Nat} {args : Array Value} {w : World} {Q Q' : Nat → Prop} {n : N.Nd} {er : Int} (h : Calls Try.prog f args w (PQTd w Q n er)) (hq : ∀ k, Q k → Q' k) : Calls Try.prog f args w (PQTd w Q' n er) := by
  refine h.mono ?_
  rintro e w' ⟨l, ka, kc, ks, g, ia, ic, is, he, H⟩
  exact ⟨l, ka, kc, ks, g, ia, ic, is, he, H.out.1, H.out.2.1.mono (fun k _ hk => hq k hk), H.out.2.2⟩
/-- The same, of nodes that are alike. -/
theorem same_yes {z zr : NM} {n : N.Nd} {w : World} {Q Q' : Nat → Prop} (hz : z.nd = n) (hzr : zr.nd = n) (h : NQ w Q z) (h' : NQ w Q' zr) (hb : N.Bd 900 n) : Calls Try.prog 20 #[z.val, zr.val] w (Adding (.bool true) w) := by
  have q := same_any z zr w h h' (nd_ns hz hb (by decide)) (nd_ns hzr hb (by decide))
  rw [hz, hzr, N.same_refl] at q
  exact q
/-- Both parts of a cut put into their blocks. -/
theorem cutb_end {c1 c2 : World} {N15 N19 B C : Nat} {zP zO : NM} {cs0 : Array Value} (aP aO : Array Value) (hP : NOwn c1 B zP) (hO : NOwn c1 B zO) (hO2 : NOwn c1 C zO) (h15 : c1.heap[N15]? = some (.cells cs0 28 (0, 0))) (h19 : N19 = c1.heap.size) (h2 : c2 = ((c1.alloc NZ).setRow N15 aP).setRow N19 aO) :
    (NOwn c2 B zP ∧ NOwn c2 B zO ∧ NOwn c2 C zO) ∧ (c2.heap[N15]? = some (.cells aP 28 (0, 0)) ∧ c2.heap[N19]? = some (.cells aO 28 (0, 0))) ∧ (∀ k o, c1.heap[k]? = some o → k ≠ N15 → c2.heap[k]? = some o) ∧ (∀ wI, Late wI c1 → wI.heap.size ≤ N15 → Late wI c2) := by
  have hA : Adds c1 (c1.alloc NZ) := (Touch.refl _ c1).alloc _
  have hl := (Array.getElem?_eq_some_iff.1 h15).1
  have b15 := box_adds h15 hA
  have b19 : (c1.alloc NZ).heap[N19]? = some NZ := by rw [h19]; exact heap_alloc_new c1 NZ
  have hne : N15 ≠ N19 := by omega
  have d15 := setRow_heap _ _ _ aP 28 _ b15
  have d19 := set_other (cs := aP) b19 (fun c => hne c.symm)
  subst h2
  exact ⟨⟨(oput (oput (hP.adds hA) b15).1 d19).1, (oput (oput (hO.adds hA) b15).1 d19).1, (oput (oput (hO2.adds hA) b15).1 d19).1⟩, ⟨set_other d15 hne, setRow_heap _ _ _ aO 28 _ d19⟩, fun k o hk hn => set_other (set_other (box_adds hk hA) hn) (fun c => by have := (Array.getElem?_eq_some_iff.1 hk).1; omega), fun wI hw hN => ((hw.adds hA).row hN _).row (by omega) _⟩
/-- The same of the reference's. -/
theorem rcutb_end {c3 c4 : World} {N17 N20 : Nat} {zR zS : NM} {Q : Nat → Prop} {cs0 : Array Value} (aR aS : Array Value) (hR : NQ c3 Q zR) (hS : NQ c3 Q zS) (h17 : c3.heap[N17]? = some (.cells cs0 26 (0, 0))) (hQ : ∀ k, Q k → k ≠ N17) (h20 : N20 = c3.heap.size) (h4 : c4 = ((c3.alloc RZ).setRow N17 aR).setRow N20 aS) :
    (NQ c4 Q zR ∧ NQ c4 Q zS) ∧ (c4.heap[N17]? = some (.cells aR 26 (0, 0)) ∧ c4.heap[N20]? = some (.cells aS 26 (0, 0))) ∧ (∀ k o, c3.heap[k]? = some o → k ≠ N17 → c4.heap[k]? = some o) ∧ (∀ wI, Late wI c3 → wI.heap.size ≤ N17 → Late wI c4) ∧ (∀ B z, NOwn c3 B z → NOwn c4 B z) := by
  have hA : Adds c3 (c3.alloc RZ) := (Touch.refl _ c3).alloc _
  have hl := (Array.getElem?_eq_some_iff.1 h17).1
  have b17 := box_adds h17 hA
  have b20 : (c3.alloc RZ).heap[N20]? = some RZ := by rw [h20]; exact heap_alloc_new c3 RZ
  have hne : N17 ≠ N20 := by omega
  have d17 := setRow_heap _ _ _ aR 26 _ b17
  have d20 := set_other (cs := aR) b20 (fun c => hne c.symm)
  have hQ' : ∀ z, NQ c3 Q z → NQ (((c3.alloc RZ).setRow N17 aR).setRow N20 aS) Q z := fun z hz =>
    (((((hz.mono (Q' := fun k => Q k ∧ k < c3.heap.size) (fun k hk hq => ⟨hq, hk⟩)).adds hA).touch (touch_row _ _ _) (fun k hk c => hQ k hk.1 c)).touch (touch_row _ _ _) (fun k hk c => by have := hk.2; omega))).mono (fun _ _ hk => hk.1)
  subst h4
  exact ⟨⟨hQ' _ hR, hQ' _ hS⟩, ⟨set_other d17 hne, setRow_heap _ _ _ aS 26 _ d20⟩, fun k o hk hn => set_other (set_other (box_adds hk hA) hn) (fun c => by have := (Array.getElem?_eq_some_iff.1 hk).1; omega), fun wI hw hN => ((hw.adds hA).row hN _).row (by omega) _, fun B z hz => ((hz.adds hA).touchR (touch_row _ _ _) b17).touchR (touch_row _ _ _) d20⟩
set_option maxRecDepth 100000 in
set_option maxHeartbeats 32000000 in
theorem changes14 (x y : NM) (i : Int) (key : List UInt8) (va : Option Addr) (val : List UInt8) (vn vc : Nat) (kid : Int) (w : World) {Q : Nat → Prop} (h : NQ w Q x) (hbig : NBig x) (h2 : NQ w Q y) (hbig2 : NBig y) (hvn : vn = val.length) (hval : PQ w Q ⟨va, val, vc⟩) :
    Calls Try.prog 5 #[x.val, y.val, .int .i64 i, .string ⟨key.toArray⟩, .slice va vn vc, .int .i64 kid] w (Adding (.bool true) w) := by
  obtain ⟨xl, xka, xkc, xks, xg, xia, xic, xis⟩ := x
  obtain ⟨yl, yka, ykc, yks, yg, yia, yic, yis⟩ := y
  have HQ := hid h
  have HQ2 := hid h2
  have HVa := hid hval
  have HVn := hid hvn
  obtain ⟨n, hn⟩ : ∃ n, n = (⟨xl, xka, xkc, xks, xg, xia, xic, xis⟩ : NM).nd := ⟨_, rfl⟩
  obtain ⟨m, hm⟩ : ∃ n, n = (⟨yl, yka, ykc, yks, yg, yia, yic, yis⟩ : NM).nd := ⟨_, rfl⟩
  have HN := hid hn
  have HM := hid hm
  obtain ⟨gr, hgr⟩ : ∃ gr, gr = N.great n := ⟨_, rfl⟩
  obtain ⟨gr2, hgr2⟩ : ∃ gr, gr = N.great m := ⟨_, rfl⟩
  have HW := hid (fun w' => works14 w')
  have HG := hid (fun w' (hA : Adds w w') => show Calls Try.prog 9 #[.agg #[.bool xl, .slice xka xks.length xkc, .slice xg.a xg.l.length xg.cap, .slice xia xis.length xic]] w' (Adding (.bool gr) w') by rw [hgr, hn]; exact great_any _ w' (h.adds hA))
  have HG2 := hid (fun w' (hA : Adds w w') => show Calls Try.prog 9 #[.agg #[.bool yl, .slice yka yks.length ykc, .slice yg.a yg.l.length yg.cap, .slice yia yis.length yic]] w' (Adding (.bool gr2) w') by rw [hgr2, hm]; exact great_any _ w' (h2.adds hA))
  have HC := hid (fun w' (hA : Adds w w') => show Calls Try.prog 10 #[.agg #[.bool xl, .slice xka xks.length xkc, .slice xg.a xg.l.length xg.cap, .slice xia xis.length xic]] w' (PNd w' n) by rw [hn]; exact PNode.nd (copied_big _ w' (h.adds hA) hbig))
  have HC2 := hid (fun w' (hA : Adds w w') => show Calls Try.prog 10 #[.agg #[.bool yl, .slice yka yks.length ykc, .slice yg.a yg.l.length yg.cap, .slice yia yis.length yic]] w' (PNd w' m) by rw [hm]; exact PNode.nd (copied_big _ w' (h2.adds hA) hbig2))
  have HGr := hid (And.intro hgr hgr2)
  clear h h2 hn hm hgr hgr2 hbig hbig2 hval hvn
  obtain ⟨N6, hN6⟩ : ∃ N, N = w.heap.size := ⟨_, rfl⟩
  obtain ⟨N7, hN7⟩ : ∃ N, N = N6 + 1 := ⟨_, rfl⟩
  obtain ⟨w1, hw1⟩ : ∃ w1, w1 = (w.alloc (.cells #[.bool xl, .slice xka xks.length xkc, .slice xg.a xg.l.length xg.cap, .slice xia xis.length xic] 26)).alloc (.cells #[.bool yl, .slice yka yks.length ykc, .slice yg.a yg.l.length yg.cap, .slice yia yis.length yic] 26) := ⟨_, rfl⟩
  have A1 := hid (show Adds w w1 by rw [hw1]; exact ((Touch.refl _ w).alloc _).alloc _)
  have X1 := hid (show w1.heap[N6]? = some (.cells #[.bool xl, .slice xka xks.length xkc, .slice xg.a xg.l.length xg.cap, .slice xia xis.length xic] 26) by rw [hw1, hN6]; exact box_adds (heap_alloc_new w _) ((Touch.refl _ _).alloc _))
  have Y1 := hid (show w1.heap[N7]? = some (.cells #[.bool yl, .slice yka yks.length ykc, .slice yg.a yg.l.length yg.cap, .slice yia yis.length yic] 26) by
    rw [hw1, hN7, hN6, ← show (w.alloc (.cells #[.bool xl, .slice xka xks.length xkc, .slice xg.a xg.l.length xg.cap, .slice xia xis.length xic] 26)).heap.size = w.heap.size + 1 by simp]; exact heap_alloc_new _ _)
  show Calls Try.prog 5 #[.agg #[.bool xl, .slice xka xks.length xkc, .slice xg.a xg.l.length xg.cap, .slice xia xis.length xic], .agg #[.bool yl, .slice yka yks.length ykc, .slice yg.a yg.l.length yg.cap, .slice yia yis.length yic], .int .i64 i, .string ⟨key.toArray⟩, .slice va vn vc, .int .i64 kid] w (Adding (.bool true) w)
  go_enter Try.func5, Try.ntmps5
  go_upto_region 1 with fail
  rw [← hw1, ← hN6, ← hN7]
  clear hw1 hN6 hN7
  cases gr with
  | true =>
    go_wp2_with (first
      | (refine wpList_load_row rfl 26 _ rfl N6 rfl 26 _ _ _ X1.out Try.underlying26 rfl (infoR4 _ _ _ _) ?_)
      | (go_at_call 9; refine (HG.out w1 A1.out).mono ?_; rintro e w2 ⟨rfl, hA2⟩; have A2 := hid (A1.out.trans hA2); clear hA2))
    go_ret
    exact ⟨rfl, A2.out⟩
  | false =>
  cases gr2 with
  | true =>
    go_wp2_with (first
      | (refine wpList_load_row rfl 26 _ rfl N6 rfl 26 _ _ _ X1.out Try.underlying26 rfl (infoR4 _ _ _ _) ?_)
      | (refine wpList_load_g (by rfl) 26 _ rfl N7 0 rfl [.bool yl, .slice yka yks.length ykc, .slice yg.a yg.l.length yg.cap, .slice yia yis.length yic] _ (rng_of Y2.out) Try.underlying26 rfl infoRN.out ?_)
      | (go_at_call 9; refine (HG2.out w2 A2.out).mono ?_; rintro e w3 ⟨rfl, hA3⟩; have A3 := hid (A2.out.trans hA3); clear hA3)
      | (go_at_call 9; refine (HG.out w1 A1.out).mono ?_; rintro e w2 ⟨rfl, hA2⟩; have A2 := hid (A1.out.trans hA2); have Y2 := hid (box_adds Y1.out hA2); clear hA2))
    go_ret
    exact ⟨rfl, A3.out⟩
  | false =>
  by_cases h200 : 200 < key.length
  · have h200z : (200 : Int) < (key.length : Int) := by omega
    have h200d : decide ((200 : Int) < (key.length : Int)) = true := decide_eq_true h200z
    go_wp2_with (first
      | (refine wpList_load_row rfl 26 _ rfl N6 rfl 26 _ _ _ X1.out Try.underlying26 rfl (infoR4 _ _ _ _) ?_)
      | (refine wpList_load_g (by rfl) 26 _ rfl N7 0 rfl [.bool yl, .slice yka yks.length ykc, .slice yg.a yg.l.length yg.cap, .slice yia yis.length yic] _ (rng_of Y2.out) Try.underlying26 rfl infoRN.out ?_)
      | (go_at_call 9; refine (HG2.out w2 A2.out).mono ?_; rintro e w3 ⟨rfl, hA3⟩; have A3 := hid (A2.out.trans hA3); clear hA3)
      | (go_at_call 9; refine (HG.out w1 A1.out).mono ?_; rintro e w2 ⟨rfl, hA2⟩; have A2 := hid (A1.out.trans hA2); have Y2 := hid (box_adds Y1.out hA2); clear hA2))
    go_ret
    exact ⟨rfl, A3.out⟩
  have h200z : ¬ (200 : Int) < (key.length : Int) := by omega
  have h200d : decide ((200 : Int) < (key.length : Int)) = false := decide_eq_false h200z
  by_cases hv200 : 200 < vn
  · have hv200z : (200 : Int) < (vn : Int) := by omega
    have hv200d : decide ((200 : Int) < (vn : Int)) = true := decide_eq_true hv200z
    go_wp2_with (first
      | (refine wpList_load_row rfl 26 _ rfl N6 rfl 26 _ _ _ X1.out Try.underlying26 rfl (infoR4 _ _ _ _) ?_)
      | (refine wpList_load_g (by rfl) 26 _ rfl N7 0 rfl [.bool yl, .slice yka yks.length ykc, .slice yg.a yg.l.length yg.cap, .slice yia yis.length yic] _ (rng_of Y2.out) Try.underlying26 rfl infoRN.out ?_)
      | (go_at_call 9; refine (HG2.out w2 A2.out).mono ?_; rintro e w3 ⟨rfl, hA3⟩; have A3 := hid (A2.out.trans hA3); clear hA3)
      | (go_at_call 9; refine (HG.out w1 A1.out).mono ?_; rintro e w2 ⟨rfl, hA2⟩; have A2 := hid (A1.out.trans hA2); have Y2 := hid (box_adds Y1.out hA2); clear hA2))
    go_ret
    exact ⟨rfl, A3.out⟩
  have hv200z : ¬ (200 : Int) < (vn : Int) := by omega
  have hv200d : decide ((200 : Int) < (vn : Int)) = false := decide_eq_false hv200z
  have HB2 := hid (show N.Bd 200 n by have q := HGr.out.1; rw [HN.out] at q ⊢; exact great_200 q.symm)
  have HB3 := hid (show N.Bd 200 m by have q := HGr.out.2; rw [HM.out] at q ⊢; exact great_200 q.symm)
  have HKl := hid (show key.length ≤ 1000 by omega)
  have HVl := hid (show vn ≤ 1000 by omega)
  go_upto_region 3 with (first
    | (refine wpList_load_row rfl 26 _ rfl N6 rfl 26 _ _ _ X1.out Try.underlying26 rfl (infoR4 _ _ _ _) ?_)
    | (refine wpList_load_g (by rfl) 26 _ rfl N7 0 rfl [.bool yl, .slice yka yks.length ykc, .slice yg.a yg.l.length yg.cap, .slice yia yis.length yic] _ (rng_of Y2.out) Try.underlying26 rfl infoRN.out ?_)
    | (go_at_call 9; refine (HG2.out w2 A2.out).mono ?_; rintro e w3 ⟨rfl, hA3⟩; have A3 := hid (A2.out.trans hA3); have Y3 := hid (box_adds Y2.out hA3); have X3 := hid (box_adds X2.out hA3); clear hA3)
    | (go_at_call 9; refine (HG.out w1 A1.out).mono ?_; rintro e w2 ⟨rfl, hA2⟩; have A2 := hid (A1.out.trans hA2); have Y2 := hid (box_adds Y1.out hA2); have X2 := hid (box_adds X1.out hA2); clear hA2))
  clear HG HG2 h200 h200z h200d hv200 hv200z hv200d
  go_cut [13, 14] (fun p13 p14 wx => ∃ (N13 N14 : Nat) (lA : Bool) (kaA : Option Addr) (kcA : Nat) (ksA : List (List UInt8)) (gA : Pl) (iaA : Option Addr) (icA : Nat) (isA : List Int) (lB : Bool) (kaB : Option Addr) (kcB : Nat) (ksB : List (List UInt8)) (gB : Pl) (iaB : Option Addr) (icB : Nat) (isB : List Int),
    p13 = .pointer (some ⟨N13, 0, none⟩) ∧ p14 = .pointer (some ⟨N14, 0, none⟩) ∧ Hid (((⟨lA, kaA, kcA, ksA, gA, iaA, icA, isA⟩ : NM).nd = n ∧ (⟨lB, kaB, kcB, ksB, gB, iaB, icB, isB⟩ : NM).nd = m) ∧ (NOwn wx w.heap.size ⟨lA, kaA, kcA, ksA, gA, iaA, icA, isA⟩ ∧ NOwn wx w.heap.size ⟨lB, kaB, kcB, ksB, gB, iaB, icB, isB⟩) ∧ (wx.heap[N13]? = some (.cells #[.bool lA, .slice kaA ksA.length kcA, .slice gA.a gA.l.length gA.cap, .slice iaA isA.length icA] 28 (0, 0)) ∧ wx.heap[N14]? = some (.cells #[.bool lB, .slice kaB ksB.length kcB, .slice gB.a gB.l.length gB.cap, .slice iaB isB.length icB] 28 (0, 0))) ∧ (wx.heap[N6]? = some (.cells #[.bool xl, .slice xka xks.length xkc, .slice xg.a xg.l.length xg.cap, .slice xia xis.length xic] 26 (0, 0)) ∧ wx.heap[N7]? = some (.cells #[.bool yl, .slice yka yks.length ykc, .slice yg.a yg.l.length yg.cap, .slice yia yis.length yic] 26 (0, 0))) ∧ Adds w wx))
  case first =>
    refine Pe_begin (S := fun W : World => Adds w W ∧ (W.heap[N6]? = some (.cells #[.bool xl, .slice xka xks.length xkc, .slice xg.a xg.l.length xg.cap, .slice xia xis.length xic] 26 (0, 0)) ∧ W.heap[N7]? = some (.cells #[.bool yl, .slice yka yks.length ykc, .slice yg.a yg.l.length yg.cap, .slice yia yis.length yic] 26 (0, 0)))) (X := 8) (by kernel_rfl) ?_
    have hS : (fun W : World => Adds w W ∧ (W.heap[N6]? = some (.cells #[.bool xl, .slice xka xks.length xkc, .slice xg.a xg.l.length xg.cap, .slice xia xis.length xic] 26 (0, 0)) ∧ W.heap[N7]? = some (.cells #[.bool yl, .slice yka yks.length ykc, .slice yg.a yg.l.length yg.cap, .slice yia yis.length yic] 26 (0, 0)))) w3.drew := ⟨A3.out.trans (adds_dr w3), box_adds X3.out (adds_dr w3), box_adds Y3.out (adds_dr w3)⟩
    refine Pe_put (i := 0) 37 (v := .agg #[.bool xl, .slice xka xks.length xkc, .slice xg.a xg.l.length xg.cap, .slice xia xis.length xic]) rfl rfl (by kernel_rfl) (by kernel_rfl) (by kernel_rfl) (by kernel_rfl) (fun _ _ _ h => h) (Or.inl ⟨by rfl, fun w' hw' => ?_⟩) hS ?_
    · (obtain ⟨c0, c1, c2, c3⟩ := box_cells hw'.2.1; clear hw'; go_simp)
    simp only [Act.put, List.setIfInBounds_toArray, List.set_cons_zero, List.set_cons_succ]
    refine Pe_put (i := 2) 39 (v := .agg #[.bool yl, .slice yka yks.length ykc, .slice yg.a yg.l.length yg.cap, .slice yia yis.length yic]) rfl rfl (by kernel_rfl) (by kernel_rfl) (by kernel_rfl) (by kernel_rfl) (fun _ _ _ h => h) (Or.inl ⟨by rfl, fun w' hw' => ?_⟩) hS ?_
    · (obtain ⟨c0, c1, c2, c3⟩ := box_cells hw'.2.2; clear hw'; go_simp)
    simp only [Act.put, List.setIfInBounds_toArray, List.set_cons_zero, List.set_cons_succ]
    refine Pe_all (rs := [1, 4, 5]) (by kernel_rfl) (by simp) (fun jj hj => ?_)
    simp only [List.mem_cons, List.not_mem_nil, or_false] at hj
    rcases hj with rfl | rfl | rfl
    · refine EO_call 38 10 #[.agg #[.bool xl, .slice xka xks.length xkc, .slice xg.a xg.l.length xg.cap, .slice xia xis.length xic]] rfl rfl (by rfl) (by go_simp) (HC.out _ hS.1) ?_
      rintro e v1 ⟨lA, kaA, kcA, ksA, gA, iaA, icA, isA, rfl, HA⟩
      have B1 := hid HA.out.2.2
      have hS2 : (fun W : World => Adds w W ∧ (W.heap[N6]? = some (.cells #[.bool xl, .slice xka xks.length xkc, .slice xg.a xg.l.length xg.cap, .slice xia xis.length xic] 26 (0, 0)) ∧ W.heap[N7]? = some (.cells #[.bool yl, .slice yka yks.length ykc, .slice yg.a yg.l.length yg.cap, .slice yia yis.length yic] 26 (0, 0)))) v1 := ⟨hS.1.trans B1.out, box_adds hS.2.1 B1.out, box_adds hS.2.2 B1.out⟩
      refine ⟨_, rfl, hS2, ?_⟩
      clear hS; have hS := hS2; clear hS2
      simp only [Act.put, List.setIfInBounds_toArray, List.set_cons_zero, List.set_cons_succ]
      refine Pe_all (rs := [3, 4, 5]) (by kernel_rfl) (by simp) (fun jj hj => ?_)
      simp only [List.mem_cons, List.not_mem_nil, or_false] at hj
      rcases hj with rfl | rfl | rfl
      · refine EO_call 40 10 #[.agg #[.bool yl, .slice yka yks.length ykc, .slice yg.a yg.l.length yg.cap, .slice yia yis.length yic]] rfl rfl (by rfl) (by go_simp) (HC2.out _ hS.1) ?_
        rintro e v2 ⟨lB, kaB, kcB, ksB, gB, iaB, icB, isB, rfl, HB⟩
        have B2 := hid HB.out.2.2
        have hS2 : (fun W : World => Adds w W ∧ (W.heap[N6]? = some (.cells #[.bool xl, .slice xka xks.length xkc, .slice xg.a xg.l.length xg.cap, .slice xia xis.length xic] 26 (0, 0)) ∧ W.heap[N7]? = some (.cells #[.bool yl, .slice yka yks.length ykc, .slice yg.a yg.l.length yg.cap, .slice yia yis.length yic] 26 (0, 0)))) v2 := ⟨hS.1.trans B2.out, box_adds hS.2.1 B2.out, box_adds hS.2.2 B2.out⟩
        refine ⟨_, rfl, hS2, ?_⟩
        clear hS; have hS := hS2; clear hS2
        simp only [Act.put, List.setIfInBounds_toArray, List.set_cons_zero, List.set_cons_succ]
        refine Pe_all (rs := [4, 5]) (by kernel_rfl) (by simp) (fun jj hj => ?_)
        simp only [List.mem_cons, List.not_mem_nil, or_false] at hj
        rcases hj with rfl | rfl
        · have hB : Adds v2 (v2.alloc NZ) := (Touch.refl _ _).alloc _
          have hS2 : (fun W : World => Adds w W ∧ (W.heap[N6]? = some (.cells #[.bool xl, .slice xka xks.length xkc, .slice xg.a xg.l.length xg.cap, .slice xia xis.length xic] 26 (0, 0)) ∧ W.heap[N7]? = some (.cells #[.bool yl, .slice yka yks.length ykc, .slice yg.a yg.l.length yg.cap, .slice yia yis.length yic] 26 (0, 0)))) (v2.alloc NZ) := ⟨hS.1.trans hB, box_adds hS.2.1 hB, box_adds hS.2.2 hB⟩
          refine EO_value 13 (v := .pointer (some ⟨v2.heap.size, 0, none⟩)) (w' := v2.alloc NZ) rfl rfl (by rfl) (by go_simp) hS2 ?_
          obtain ⟨N13, hN13⟩ : ∃ N, N = v2.heap.size := ⟨_, rfl⟩
          obtain ⟨v3, hv3⟩ : ∃ W, W = v2.alloc NZ := ⟨_, rfl⟩
          have ZN13 := hid (show v3.heap[N13]? = some NZ ∧ N13 = v2.heap.size by rw [hv3, hN13]; exact ⟨heap_alloc_new _ _, rfl⟩)
          rw [← hv3] at hB hS2
          rw [← hv3, ← hN13]
          have B3 := hid hB
          clear hB hv3 hN13
          clear hS; have hS := hS2; clear hS2
          simp only [Act.put, List.setIfInBounds_toArray, List.set_cons_zero, List.set_cons_succ]
          refine Pe_all (rs := [5]) (by kernel_rfl) (by simp) (fun jj hj => ?_)
          obtain rfl := List.mem_singleton.1 hj
          have hB : Adds v3 (v3.alloc NZ) := (Touch.refl _ _).alloc _
          have hS2 : (fun W : World => Adds w W ∧ (W.heap[N6]? = some (.cells #[.bool xl, .slice xka xks.length xkc, .slice xg.a xg.l.length xg.cap, .slice xia xis.length xic] 26 (0, 0)) ∧ W.heap[N7]? = some (.cells #[.bool yl, .slice yka yks.length ykc, .slice yg.a yg.l.length yg.cap, .slice yia yis.length yic] 26 (0, 0)))) (v3.alloc NZ) := ⟨hS.1.trans hB, box_adds hS.2.1 hB, box_adds hS.2.2 hB⟩
          refine EO_value 14 (v := .pointer (some ⟨v3.heap.size, 0, none⟩)) (w' := v3.alloc NZ) rfl rfl (by rfl) (by go_simp) hS2 ?_
          obtain ⟨N14, hN14⟩ : ∃ N, N = v3.heap.size := ⟨_, rfl⟩
          obtain ⟨v4, hv4⟩ : ∃ W, W = v3.alloc NZ := ⟨_, rfl⟩
          have ZN14 := hid (show v4.heap[N14]? = some NZ ∧ N14 = v3.heap.size by rw [hv4, hN14]; exact ⟨heap_alloc_new _ _, rfl⟩)
          rw [← hv4] at hB hS2
          rw [← hv4, ← hN14]
          have B4 := hid hB
          clear hB hv4 hN14
          clear hS; have hS := hS2; clear hS2
          simp only [Act.put, List.setIfInBounds_toArray, List.set_cons_zero, List.set_cons_succ]
          have hne : N13 ≠ N14 := by
            have q1 := (Array.getElem?_eq_some_iff.1 ZN13.out.1).1
            have q2 := ZN14.out.2
            omega
          have HE := hid (copy_end (zx := ⟨lA, kaA, kcA, ksA, gA, iaA, icA, isA⟩) (zy := ⟨lB, kaB, kcB, ksB, gB, iaB, icB, isB⟩) ((HA.out.2.1.adds (B2.out.trans (B3.out.trans B4.out))).lower (A3.out.trans (adds_dr w3)).size) ((HB.out.2.1.adds (B3.out.trans B4.out)).lower (A3.out.trans ((adds_dr w3).trans B1.out)).size) (box_adds ZN13.out.1 B4.out) ZN14.out.1 hne hS.1 (by rw [ZN13.out.2]; exact (A3.out.trans (((adds_dr w3).trans B1.out).trans B2.out)).size) (by rw [ZN14.out.2]; exact (A3.out.trans ((((adds_dr w3).trans B1.out).trans B2.out).trans B3.out)).size) #[.bool lA, .slice kaA ksA.length kcA, .slice gA.a gA.l.length gA.cap, .slice iaA isA.length icA] #[.bool lB, .slice kaB ksB.length kcB, .slice gB.a gB.l.length gB.cap, .slice iaB isB.length icB])
          have K13 := hid (box_adds ZN13.out.1 B4.out)
          have HL13 := hid (show w.heap.size ≤ N13 ∧ w.heap.size ≤ N14 by rw [ZN13.out.2, ZN14.out.2]; exact ⟨(A3.out.trans (((adds_dr w3).trans B1.out).trans B2.out)).size, (A3.out.trans ((((adds_dr w3).trans B1.out).trans B2.out).trans B3.out)).size⟩)
          have hx13 : N6 ≠ N13 ∧ N7 ≠ N13 ∧ N6 ≠ N14 ∧ N7 ≠ N14 := by
            have q1 := (Array.getElem?_eq_some_iff.1 X3.out).1
            have q2 := (Array.getElem?_eq_some_iff.1 Y3.out).1
            have q3 := Nat.le_trans (Nat.le_refl _) (((adds_dr w3).trans B1.out).trans B2.out).size
            have q4 := Nat.le_trans (Nat.le_refl _) ((((adds_dr w3).trans B1.out).trans B2.out).trans B3.out).size
            rw [← ZN13.out.2] at q3
            rw [← ZN14.out.2] at q4
            omega
          refine Pe_do (i := 6) none (by kernel_rfl) rfl rfl rfl (fun K' hK => ?_)
          refine Go.wp_store_row 28 _ _ rfl N13 #[.bool lA, .slice kaA ksA.length kcA, .slice gA.a gA.l.length gA.cap, .slice iaA isA.length icA] rfl rfl 28 _ K13.out (info4 _ _ _ _) rfl (one4 _ _ _ _ _ _ _ _ _ _) ?_
          have hS2 : (fun W : World => Adds w W ∧ (W.heap[N6]? = some (.cells #[.bool xl, .slice xka xks.length xkc, .slice xg.a xg.l.length xg.cap, .slice xia xis.length xic] 26 (0, 0)) ∧ W.heap[N7]? = some (.cells #[.bool yl, .slice yka yks.length ykc, .slice yg.a yg.l.length yg.cap, .slice yia yis.length yic] 26 (0, 0)))) (v4.setRow N13 #[.bool lA, .slice kaA ksA.length kcA, .slice gA.a gA.l.length gA.cap, .slice iaA isA.length icA]) := ⟨(st_keep (And.intro hS.1 hS.2.1) hx13.1 HL13.out.1).1, (st_keep (And.intro hS.1 hS.2.1) hx13.1 HL13.out.1).2, (st_keep (And.intro hS.1 hS.2.2) hx13.2.1 HL13.out.1).2⟩
          refine hK _ _ (fun _ => hS2) ?_
          simp only [Act.put]
          clear hS hK; have hS := hS2; clear hS2
          refine Pe_do (i := 7) none (by kernel_rfl) rfl rfl rfl (fun K' hK => ?_)
          refine Go.wp_store_row 28 _ _ rfl N14 #[.bool lB, .slice kaB ksB.length kcB, .slice gB.a gB.l.length gB.cap, .slice iaB isB.length icB] rfl rfl 28 _ HE.out.2.2.2.2.2 (info4 _ _ _ _) rfl (one4 _ _ _ _ _ _ _ _ _ _) ?_
          have hS2 : (fun W : World => Adds w W ∧ (W.heap[N6]? = some (.cells #[.bool xl, .slice xka xks.length xkc, .slice xg.a xg.l.length xg.cap, .slice xia xis.length xic] 26 (0, 0)) ∧ W.heap[N7]? = some (.cells #[.bool yl, .slice yka yks.length ykc, .slice yg.a yg.l.length yg.cap, .slice yia yis.length yic] 26 (0, 0)))) ((v4.setRow N13 #[.bool lA, .slice kaA ksA.length kcA, .slice gA.a gA.l.length gA.cap, .slice iaA isA.length icA]).setRow N14 #[.bool lB, .slice kaB ksB.length kcB, .slice gB.a gB.l.length gB.cap, .slice iaB isB.length icB]) := ⟨(st_keep (And.intro hS.1 hS.2.1) hx13.2.2.1 HL13.out.2).1, (st_keep (And.intro hS.1 hS.2.1) hx13.2.2.1 HL13.out.2).2, (st_keep (And.intro hS.1 hS.2.2) hx13.2.2.2 HL13.out.2).2⟩
          refine hK _ _ (fun _ => hS2) ?_
          simp only [Act.put]
          clear hS hK; have hS := hid hS2; clear hS2 hx13 hne
          refine Pe_done (by kernel_rfl) ?_ _
          go_wp2
          go_meet
          case rel => exact ⟨N13, N14, lA, kaA, kcA, ksA, gA, iaA, icA, isA, lB, kaB, kcB, ksB, gB, iaB, icB, isB, rfl, rfl, ⟨HA.out.1, HB.out.1⟩, ⟨HE.out.1, HE.out.2.1⟩, ⟨HE.out.2.2.1, HE.out.2.2.2.1⟩, hS.out.2, hS.out.1⟩
        · have hB : Adds v2 (v2.alloc NZ) := (Touch.refl _ _).alloc _
          have hS2 : (fun W : World => Adds w W ∧ (W.heap[N6]? = some (.cells #[.bool xl, .slice xka xks.length xkc, .slice xg.a xg.l.length xg.cap, .slice xia xis.length xic] 26 (0, 0)) ∧ W.heap[N7]? = some (.cells #[.bool yl, .slice yka yks.length ykc, .slice yg.a yg.l.length yg.cap, .slice yia yis.length yic] 26 (0, 0)))) (v2.alloc NZ) := ⟨hS.1.trans hB, box_adds hS.2.1 hB, box_adds hS.2.2 hB⟩
          refine EO_value 14 (v := .pointer (some ⟨v2.heap.size, 0, none⟩)) (w' := v2.alloc NZ) rfl rfl (by rfl) (by go_simp) hS2 ?_
          obtain ⟨N14, hN14⟩ : ∃ N, N = v2.heap.size := ⟨_, rfl⟩
          obtain ⟨v3, hv3⟩ : ∃ W, W = v2.alloc NZ := ⟨_, rfl⟩
          have ZN14 := hid (show v3.heap[N14]? = some NZ ∧ N14 = v2.heap.size by rw [hv3, hN14]; exact ⟨heap_alloc_new _ _, rfl⟩)
          rw [← hv3] at hB hS2
          rw [← hv3, ← hN14]
          have B3 := hid hB
          clear hB hv3 hN14
          clear hS; have hS := hS2; clear hS2
          simp only [Act.put, List.setIfInBounds_toArray, List.set_cons_zero, List.set_cons_succ]
          refine Pe_all (rs := [4]) (by kernel_rfl) (by simp) (fun jj hj => ?_)
          obtain rfl := List.mem_singleton.1 hj
          have hB : Adds v3 (v3.alloc NZ) := (Touch.refl _ _).alloc _
          have hS2 : (fun W : World => Adds w W ∧ (W.heap[N6]? = some (.cells #[.bool xl, .slice xka xks.length xkc, .slice xg.a xg.l.length xg.cap, .slice xia xis.length xic] 26 (0, 0)) ∧ W.heap[N7]? = some (.cells #[.bool yl, .slice yka yks.length ykc, .slice yg.a yg.l.length yg.cap, .slice yia yis.length yic] 26 (0, 0)))) (v3.alloc NZ) := ⟨hS.1.trans hB, box_adds hS.2.1 hB, box_adds hS.2.2 hB⟩
          refine EO_value 13 (v := .pointer (some ⟨v3.heap.size, 0, none⟩)) (w' := v3.alloc NZ) rfl rfl (by rfl) (by go_simp) hS2 ?_
          obtain ⟨N13, hN13⟩ : ∃ N, N = v3.heap.size := ⟨_, rfl⟩
          obtain ⟨v4, hv4⟩ : ∃ W, W = v3.alloc NZ := ⟨_, rfl⟩
          have ZN13 := hid (show v4.heap[N13]? = some NZ ∧ N13 = v3.heap.size by rw [hv4, hN13]; exact ⟨heap_alloc_new _ _, rfl⟩)
          rw [← hv4] at hB hS2
          rw [← hv4, ← hN13]
          have B4 := hid hB
          clear hB hv4 hN13
          clear hS; have hS := hS2; clear hS2
          simp only [Act.put, List.setIfInBounds_toArray, List.set_cons_zero, List.set_cons_succ]
          have hne : N13 ≠ N14 := by
            have q1 := (Array.getElem?_eq_some_iff.1 ZN14.out.1).1
            have q2 := ZN13.out.2
            omega
          have HE := hid (copy_end (zx := ⟨lA, kaA, kcA, ksA, gA, iaA, icA, isA⟩) (zy := ⟨lB, kaB, kcB, ksB, gB, iaB, icB, isB⟩) ((HA.out.2.1.adds (B2.out.trans (B3.out.trans B4.out))).lower (A3.out.trans (adds_dr w3)).size) ((HB.out.2.1.adds (B3.out.trans B4.out)).lower (A3.out.trans ((adds_dr w3).trans B1.out)).size) ZN13.out.1 (box_adds ZN14.out.1 B4.out) hne hS.1 (by rw [ZN13.out.2]; exact (A3.out.trans ((((adds_dr w3).trans B1.out).trans B2.out).trans B3.out)).size) (by rw [ZN14.out.2]; exact (A3.out.trans (((adds_dr w3).trans B1.out).trans B2.out)).size) #[.bool lA, .slice kaA ksA.length kcA, .slice gA.a gA.l.length gA.cap, .slice iaA isA.length icA] #[.bool lB, .slice kaB ksB.length kcB, .slice gB.a gB.l.length gB.cap, .slice iaB isB.length icB])
          have K13 := hid ZN13.out.1
          have HL13 := hid (show w.heap.size ≤ N13 ∧ w.heap.size ≤ N14 by rw [ZN13.out.2, ZN14.out.2]; exact ⟨(A3.out.trans ((((adds_dr w3).trans B1.out).trans B2.out).trans B3.out)).size, (A3.out.trans (((adds_dr w3).trans B1.out).trans B2.out)).size⟩)
          have hx13 : N6 ≠ N13 ∧ N7 ≠ N13 ∧ N6 ≠ N14 ∧ N7 ≠ N14 := by
            have q1 := (Array.getElem?_eq_some_iff.1 X3.out).1
            have q2 := (Array.getElem?_eq_some_iff.1 Y3.out).1
            have q3 := Nat.le_trans (Nat.le_refl _) ((((adds_dr w3).trans B1.out).trans B2.out).trans B3.out).size
            have q4 := Nat.le_trans (Nat.le_refl _) (((adds_dr w3).trans B1.out).trans B2.out).size
            rw [← ZN13.out.2] at q3
            rw [← ZN14.out.2] at q4
            omega
          refine Pe_do (i := 6) none (by kernel_rfl) rfl rfl rfl (fun K' hK => ?_)
          refine Go.wp_store_row 28 _ _ rfl N13 #[.bool lA, .slice kaA ksA.length kcA, .slice gA.a gA.l.length gA.cap, .slice iaA isA.length icA] rfl rfl 28 _ K13.out (info4 _ _ _ _) rfl (one4 _ _ _ _ _ _ _ _ _ _) ?_
          have hS2 : (fun W : World => Adds w W ∧ (W.heap[N6]? = some (.cells #[.bool xl, .slice xka xks.length xkc, .slice xg.a xg.l.length xg.cap, .slice xia xis.length xic] 26 (0, 0)) ∧ W.heap[N7]? = some (.cells #[.bool yl, .slice yka yks.length ykc, .slice yg.a yg.l.length yg.cap, .slice yia yis.length yic] 26 (0, 0)))) (v4.setRow N13 #[.bool lA, .slice kaA ksA.length kcA, .slice gA.a gA.l.length gA.cap, .slice iaA isA.length icA]) := ⟨(st_keep (And.intro hS.1 hS.2.1) hx13.1 HL13.out.1).1, (st_keep (And.intro hS.1 hS.2.1) hx13.1 HL13.out.1).2, (st_keep (And.intro hS.1 hS.2.2) hx13.2.1 HL13.out.1).2⟩
          refine hK _ _ (fun _ => hS2) ?_
          simp only [Act.put]
          clear hS hK; have hS := hS2; clear hS2
          refine Pe_do (i := 7) none (by kernel_rfl) rfl rfl rfl (fun K' hK => ?_)
          refine Go.wp_store_row 28 _ _ rfl N14 #[.bool lB, .slice kaB ksB.length kcB, .slice gB.a gB.l.length gB.cap, .slice iaB isB.length icB] rfl rfl 28 _ HE.out.2.2.2.2.2 (info4 _ _ _ _) rfl (one4 _ _ _ _ _ _ _ _ _ _) ?_
          have hS2 : (fun W : World => Adds w W ∧ (W.heap[N6]? = some (.cells #[.bool xl, .slice xka xks.length xkc, .slice xg.a xg.l.length xg.cap, .slice xia xis.length xic] 26 (0, 0)) ∧ W.heap[N7]? = some (.cells #[.bool yl, .slice yka yks.length ykc, .slice yg.a yg.l.length yg.cap, .slice yia yis.length yic] 26 (0, 0)))) ((v4.setRow N13 #[.bool lA, .slice kaA ksA.length kcA, .slice gA.a gA.l.length gA.cap, .slice iaA isA.length icA]).setRow N14 #[.bool lB, .slice kaB ksB.length kcB, .slice gB.a gB.l.length gB.cap, .slice iaB isB.length icB]) := ⟨(st_keep (And.intro hS.1 hS.2.1) hx13.2.2.1 HL13.out.2).1, (st_keep (And.intro hS.1 hS.2.1) hx13.2.2.1 HL13.out.2).2, (st_keep (And.intro hS.1 hS.2.2) hx13.2.2.2 HL13.out.2).2⟩
          refine hK _ _ (fun _ => hS2) ?_
          simp only [Act.put]
          clear hS hK; have hS := hid hS2; clear hS2 hx13 hne
          refine Pe_done (by kernel_rfl) ?_ _
          go_wp2
          go_meet
          case rel => exact ⟨N13, N14, lA, kaA, kcA, ksA, gA, iaA, icA, isA, lB, kaB, kcB, ksB, gB, iaB, icB, isB, rfl, rfl, ⟨HA.out.1, HB.out.1⟩, ⟨HE.out.1, HE.out.2.1⟩, ⟨HE.out.2.2.1, HE.out.2.2.2.1⟩, hS.out.2, hS.out.1⟩
      · have hB : Adds v1 (v1.alloc NZ) := (Touch.refl _ _).alloc _
        have hS2 : (fun W : World => Adds w W ∧ (W.heap[N6]? = some (.cells #[.bool xl, .slice xka xks.length xkc, .slice xg.a xg.l.length xg.cap, .slice xia xis.length xic] 26 (0, 0)) ∧ W.heap[N7]? = some (.cells #[.bool yl, .slice yka yks.length ykc, .slice yg.a yg.l.length yg.cap, .slice yia yis.length yic] 26 (0, 0)))) (v1.alloc NZ) := ⟨hS.1.trans hB, box_adds hS.2.1 hB, box_adds hS.2.2 hB⟩
        refine EO_value 13 (v := .pointer (some ⟨v1.heap.size, 0, none⟩)) (w' := v1.alloc NZ) rfl rfl (by rfl) (by go_simp) hS2 ?_
        obtain ⟨N13, hN13⟩ : ∃ N, N = v1.heap.size := ⟨_, rfl⟩
        obtain ⟨v2, hv2⟩ : ∃ W, W = v1.alloc NZ := ⟨_, rfl⟩
        have ZN13 := hid (show v2.heap[N13]? = some NZ ∧ N13 = v1.heap.size by rw [hv2, hN13]; exact ⟨heap_alloc_new _ _, rfl⟩)
        rw [← hv2] at hB hS2
        rw [← hv2, ← hN13]
        have B2 := hid hB
        clear hB hv2 hN13
        clear hS; have hS := hS2; clear hS2
        simp only [Act.put, List.setIfInBounds_toArray, List.set_cons_zero, List.set_cons_succ]
        refine Pe_all (rs := [3, 5]) (by kernel_rfl) (by simp) (fun jj hj => ?_)
        simp only [List.mem_cons, List.not_mem_nil, or_false] at hj
        rcases hj with rfl | rfl
        · refine EO_call 40 10 #[.agg #[.bool yl, .slice yka yks.length ykc, .slice yg.a yg.l.length yg.cap, .slice yia yis.length yic]] rfl rfl (by rfl) (by go_simp) (HC2.out _ hS.1) ?_
          rintro e v3 ⟨lB, kaB, kcB, ksB, gB, iaB, icB, isB, rfl, HB⟩
          have B3 := hid HB.out.2.2
          have hS2 : (fun W : World => Adds w W ∧ (W.heap[N6]? = some (.cells #[.bool xl, .slice xka xks.length xkc, .slice xg.a xg.l.length xg.cap, .slice xia xis.length xic] 26 (0, 0)) ∧ W.heap[N7]? = some (.cells #[.bool yl, .slice yka yks.length ykc, .slice yg.a yg.l.length yg.cap, .slice yia yis.length yic] 26 (0, 0)))) v3 := ⟨hS.1.trans B3.out, box_adds hS.2.1 B3.out, box_adds hS.2.2 B3.out⟩
          refine ⟨_, rfl, hS2, ?_⟩
          clear hS; have hS := hS2; clear hS2
          simp only [Act.put, List.setIfInBounds_toArray, List.set_cons_zero, List.set_cons_succ]
          refine Pe_all (rs := [5]) (by kernel_rfl) (by simp) (fun jj hj => ?_)
          obtain rfl := List.mem_singleton.1 hj
          have hB : Adds v3 (v3.alloc NZ) := (Touch.refl _ _).alloc _
          have hS2 : (fun W : World => Adds w W ∧ (W.heap[N6]? = some (.cells #[.bool xl, .slice xka xks.length xkc, .slice xg.a xg.l.length xg.cap, .slice xia xis.length xic] 26 (0, 0)) ∧ W.heap[N7]? = some (.cells #[.bool yl, .slice yka yks.length ykc, .slice yg.a yg.l.length yg.cap, .slice yia yis.length yic] 26 (0, 0)))) (v3.alloc NZ) := ⟨hS.1.trans hB, box_adds hS.2.1 hB, box_adds hS.2.2 hB⟩
          refine EO_value 14 (v := .pointer (some ⟨v3.heap.size, 0, none⟩)) (w' := v3.alloc NZ) rfl rfl (by rfl) (by go_simp) hS2 ?_
          obtain ⟨N14, hN14⟩ : ∃ N, N = v3.heap.size := ⟨_, rfl⟩
          obtain ⟨v4, hv4⟩ : ∃ W, W = v3.alloc NZ := ⟨_, rfl⟩
          have ZN14 := hid (show v4.heap[N14]? = some NZ ∧ N14 = v3.heap.size by rw [hv4, hN14]; exact ⟨heap_alloc_new _ _, rfl⟩)
          rw [← hv4] at hB hS2
          rw [← hv4, ← hN14]
          have B4 := hid hB
          clear hB hv4 hN14
          clear hS; have hS := hS2; clear hS2
          simp only [Act.put, List.setIfInBounds_toArray, List.set_cons_zero, List.set_cons_succ]
          have hne : N13 ≠ N14 := by
            have q1 := (Array.getElem?_eq_some_iff.1 (box_adds ZN13.out.1 B3.out)).1
            have q2 := ZN14.out.2
            omega
          have HE := hid (copy_end (zx := ⟨lA, kaA, kcA, ksA, gA, iaA, icA, isA⟩) (zy := ⟨lB, kaB, kcB, ksB, gB, iaB, icB, isB⟩) ((HA.out.2.1.adds (B2.out.trans (B3.out.trans B4.out))).lower (A3.out.trans (adds_dr w3)).size) ((HB.out.2.1.adds B4.out).lower (A3.out.trans (((adds_dr w3).trans B1.out).trans B2.out)).size) (box_adds ZN13.out.1 (B3.out.trans B4.out)) ZN14.out.1 hne hS.1 (by rw [ZN13.out.2]; exact (A3.out.trans ((adds_dr w3).trans B1.out)).size) (by rw [ZN14.out.2]; exact (A3.out.trans ((((adds_dr w3).trans B1.out).trans B2.out).trans B3.out)).size) #[.bool lA, .slice kaA ksA.length kcA, .slice gA.a gA.l.length gA.cap, .slice iaA isA.length icA] #[.bool lB, .slice kaB ksB.length kcB, .slice gB.a gB.l.length gB.cap, .slice iaB isB.length icB])
          have K13 := hid (box_adds ZN13.out.1 (B3.out.trans B4.out))
          have HL13 := hid (show w.heap.size ≤ N13 ∧ w.heap.size ≤ N14 by rw [ZN13.out.2, ZN14.out.2]; exact ⟨(A3.out.trans ((adds_dr w3).trans B1.out)).size, (A3.out.trans ((((adds_dr w3).trans B1.out).trans B2.out).trans B3.out)).size⟩)
          have hx13 : N6 ≠ N13 ∧ N7 ≠ N13 ∧ N6 ≠ N14 ∧ N7 ≠ N14 := by
            have q1 := (Array.getElem?_eq_some_iff.1 X3.out).1
            have q2 := (Array.getElem?_eq_some_iff.1 Y3.out).1
            have q3 := Nat.le_trans (Nat.le_refl _) ((adds_dr w3).trans B1.out).size
            have q4 := Nat.le_trans (Nat.le_refl _) ((((adds_dr w3).trans B1.out).trans B2.out).trans B3.out).size
            rw [← ZN13.out.2] at q3
            rw [← ZN14.out.2] at q4
            omega
          refine Pe_do (i := 6) none (by kernel_rfl) rfl rfl rfl (fun K' hK => ?_)
          refine Go.wp_store_row 28 _ _ rfl N13 #[.bool lA, .slice kaA ksA.length kcA, .slice gA.a gA.l.length gA.cap, .slice iaA isA.length icA] rfl rfl 28 _ K13.out (info4 _ _ _ _) rfl (one4 _ _ _ _ _ _ _ _ _ _) ?_
          have hS2 : (fun W : World => Adds w W ∧ (W.heap[N6]? = some (.cells #[.bool xl, .slice xka xks.length xkc, .slice xg.a xg.l.length xg.cap, .slice xia xis.length xic] 26 (0, 0)) ∧ W.heap[N7]? = some (.cells #[.bool yl, .slice yka yks.length ykc, .slice yg.a yg.l.length yg.cap, .slice yia yis.length yic] 26 (0, 0)))) (v4.setRow N13 #[.bool lA, .slice kaA ksA.length kcA, .slice gA.a gA.l.length gA.cap, .slice iaA isA.length icA]) := ⟨(st_keep (And.intro hS.1 hS.2.1) hx13.1 HL13.out.1).1, (st_keep (And.intro hS.1 hS.2.1) hx13.1 HL13.out.1).2, (st_keep (And.intro hS.1 hS.2.2) hx13.2.1 HL13.out.1).2⟩
          refine hK _ _ (fun _ => hS2) ?_
          simp only [Act.put]
          clear hS hK; have hS := hS2; clear hS2
          refine Pe_do (i := 7) none (by kernel_rfl) rfl rfl rfl (fun K' hK => ?_)
          refine Go.wp_store_row 28 _ _ rfl N14 #[.bool lB, .slice kaB ksB.length kcB, .slice gB.a gB.l.length gB.cap, .slice iaB isB.length icB] rfl rfl 28 _ HE.out.2.2.2.2.2 (info4 _ _ _ _) rfl (one4 _ _ _ _ _ _ _ _ _ _) ?_
          have hS2 : (fun W : World => Adds w W ∧ (W.heap[N6]? = some (.cells #[.bool xl, .slice xka xks.length xkc, .slice xg.a xg.l.length xg.cap, .slice xia xis.length xic] 26 (0, 0)) ∧ W.heap[N7]? = some (.cells #[.bool yl, .slice yka yks.length ykc, .slice yg.a yg.l.length yg.cap, .slice yia yis.length yic] 26 (0, 0)))) ((v4.setRow N13 #[.bool lA, .slice kaA ksA.length kcA, .slice gA.a gA.l.length gA.cap, .slice iaA isA.length icA]).setRow N14 #[.bool lB, .slice kaB ksB.length kcB, .slice gB.a gB.l.length gB.cap, .slice iaB isB.length icB]) := ⟨(st_keep (And.intro hS.1 hS.2.1) hx13.2.2.1 HL13.out.2).1, (st_keep (And.intro hS.1 hS.2.1) hx13.2.2.1 HL13.out.2).2, (st_keep (And.intro hS.1 hS.2.2) hx13.2.2.2 HL13.out.2).2⟩
          refine hK _ _ (fun _ => hS2) ?_
          simp only [Act.put]
          clear hS hK; have hS := hid hS2; clear hS2 hx13 hne
          refine Pe_done (by kernel_rfl) ?_ _
          go_wp2
          go_meet
          case rel => exact ⟨N13, N14, lA, kaA, kcA, ksA, gA, iaA, icA, isA, lB, kaB, kcB, ksB, gB, iaB, icB, isB, rfl, rfl, ⟨HA.out.1, HB.out.1⟩, ⟨HE.out.1, HE.out.2.1⟩, ⟨HE.out.2.2.1, HE.out.2.2.2.1⟩, hS.out.2, hS.out.1⟩
        · have hB : Adds v2 (v2.alloc NZ) := (Touch.refl _ _).alloc _
          have hS2 : (fun W : World => Adds w W ∧ (W.heap[N6]? = some (.cells #[.bool xl, .slice xka xks.length xkc, .slice xg.a xg.l.length xg.cap, .slice xia xis.length xic] 26 (0, 0)) ∧ W.heap[N7]? = some (.cells #[.bool yl, .slice yka yks.length ykc, .slice yg.a yg.l.length yg.cap, .slice yia yis.length yic] 26 (0, 0)))) (v2.alloc NZ) := ⟨hS.1.trans hB, box_adds hS.2.1 hB, box_adds hS.2.2 hB⟩
          refine EO_value 14 (v := .pointer (some ⟨v2.heap.size, 0, none⟩)) (w' := v2.alloc NZ) rfl rfl (by rfl) (by go_simp) hS2 ?_
          obtain ⟨N14, hN14⟩ : ∃ N, N = v2.heap.size := ⟨_, rfl⟩
          obtain ⟨v3, hv3⟩ : ∃ W, W = v2.alloc NZ := ⟨_, rfl⟩
          have ZN14 := hid (show v3.heap[N14]? = some NZ ∧ N14 = v2.heap.size by rw [hv3, hN14]; exact ⟨heap_alloc_new _ _, rfl⟩)
          rw [← hv3] at hB hS2
          rw [← hv3, ← hN14]
          have B3 := hid hB
          clear hB hv3 hN14
          clear hS; have hS := hS2; clear hS2
          simp only [Act.put, List.setIfInBounds_toArray, List.set_cons_zero, List.set_cons_succ]
          refine Pe_all (rs := [3]) (by kernel_rfl) (by simp) (fun jj hj => ?_)
          obtain rfl := List.mem_singleton.1 hj
          refine EO_call 40 10 #[.agg #[.bool yl, .slice yka yks.length ykc, .slice yg.a yg.l.length yg.cap, .slice yia yis.length yic]] rfl rfl (by rfl) (by go_simp) (HC2.out _ hS.1) ?_
          rintro e v4 ⟨lB, kaB, kcB, ksB, gB, iaB, icB, isB, rfl, HB⟩
          have B4 := hid HB.out.2.2
          have hS2 : (fun W : World => Adds w W ∧ (W.heap[N6]? = some (.cells #[.bool xl, .slice xka xks.length xkc, .slice xg.a xg.l.length xg.cap, .slice xia xis.length xic] 26 (0, 0)) ∧ W.heap[N7]? = some (.cells #[.bool yl, .slice yka yks.length ykc, .slice yg.a yg.l.length yg.cap, .slice yia yis.length yic] 26 (0, 0)))) v4 := ⟨hS.1.trans B4.out, box_adds hS.2.1 B4.out, box_adds hS.2.2 B4.out⟩
          refine ⟨_, rfl, hS2, ?_⟩
          clear hS; have hS := hS2; clear hS2
          simp only [Act.put, List.setIfInBounds_toArray, List.set_cons_zero, List.set_cons_succ]
          have hne : N13 ≠ N14 := by
            have q1 := (Array.getElem?_eq_some_iff.1 ZN13.out.1).1
            have q2 := ZN14.out.2
            omega
          have HE := hid (copy_end (zx := ⟨lA, kaA, kcA, ksA, gA, iaA, icA, isA⟩) (zy := ⟨lB, kaB, kcB, ksB, gB, iaB, icB, isB⟩) ((HA.out.2.1.adds (B2.out.trans (B3.out.trans B4.out))).lower (A3.out.trans (adds_dr w3)).size) (HB.out.2.1.lower (A3.out.trans ((((adds_dr w3).trans B1.out).trans B2.out).trans B3.out)).size) (box_adds ZN13.out.1 (B3.out.trans B4.out)) (box_adds ZN14.out.1 B4.out) hne hS.1 (by rw [ZN13.out.2]; exact (A3.out.trans ((adds_dr w3).trans B1.out)).size) (by rw [ZN14.out.2]; exact (A3.out.trans (((adds_dr w3).trans B1.out).trans B2.out)).size) #[.bool lA, .slice kaA ksA.length kcA, .slice gA.a gA.l.length gA.cap, .slice iaA isA.length icA] #[.bool lB, .slice kaB ksB.length kcB, .slice gB.a gB.l.length gB.cap, .slice iaB isB.length icB])
          have K13 := hid (box_adds ZN13.out.1 (B3.out.trans B4.out))
          have HL13 := hid (show w.heap.size ≤ N13 ∧ w.heap.size ≤ N14 by rw [ZN13.out.2, ZN14.out.2]; exact ⟨(A3.out.trans ((adds_dr w3).trans B1.out)).size, (A3.out.trans (((adds_dr w3).trans B1.out).trans B2.out)).size⟩)
          have hx13 : N6 ≠ N13 ∧ N7 ≠ N13 ∧ N6 ≠ N14 ∧ N7 ≠ N14 := by
            have q1 := (Array.getElem?_eq_some_iff.1 X3.out).1
            have q2 := (Array.getElem?_eq_some_iff.1 Y3.out).1
            have q3 := Nat.le_trans (Nat.le_refl _) ((adds_dr w3).trans B1.out).size
            have q4 := Nat.le_trans (Nat.le_refl _) (((adds_dr w3).trans B1.out).trans B2.out).size
            rw [← ZN13.out.2] at q3
            rw [← ZN14.out.2] at q4
            omega
          refine Pe_do (i := 6) none (by kernel_rfl) rfl rfl rfl (fun K' hK => ?_)
          refine Go.wp_store_row 28 _ _ rfl N13 #[.bool lA, .slice kaA ksA.length kcA, .slice gA.a gA.l.length gA.cap, .slice iaA isA.length icA] rfl rfl 28 _ K13.out (info4 _ _ _ _) rfl (one4 _ _ _ _ _ _ _ _ _ _) ?_
          have hS2 : (fun W : World => Adds w W ∧ (W.heap[N6]? = some (.cells #[.bool xl, .slice xka xks.length xkc, .slice xg.a xg.l.length xg.cap, .slice xia xis.length xic] 26 (0, 0)) ∧ W.heap[N7]? = some (.cells #[.bool yl, .slice yka yks.length ykc, .slice yg.a yg.l.length yg.cap, .slice yia yis.length yic] 26 (0, 0)))) (v4.setRow N13 #[.bool lA, .slice kaA ksA.length kcA, .slice gA.a gA.l.length gA.cap, .slice iaA isA.length icA]) := ⟨(st_keep (And.intro hS.1 hS.2.1) hx13.1 HL13.out.1).1, (st_keep (And.intro hS.1 hS.2.1) hx13.1 HL13.out.1).2, (st_keep (And.intro hS.1 hS.2.2) hx13.2.1 HL13.out.1).2⟩
          refine hK _ _ (fun _ => hS2) ?_
          simp only [Act.put]
          clear hS hK; have hS := hS2; clear hS2
          refine Pe_do (i := 7) none (by kernel_rfl) rfl rfl rfl (fun K' hK => ?_)
          refine Go.wp_store_row 28 _ _ rfl N14 #[.bool lB, .slice kaB ksB.length kcB, .slice gB.a gB.l.length gB.cap, .slice iaB isB.length icB] rfl rfl 28 _ HE.out.2.2.2.2.2 (info4 _ _ _ _) rfl (one4 _ _ _ _ _ _ _ _ _ _) ?_
          have hS2 : (fun W : World => Adds w W ∧ (W.heap[N6]? = some (.cells #[.bool xl, .slice xka xks.length xkc, .slice xg.a xg.l.length xg.cap, .slice xia xis.length xic] 26 (0, 0)) ∧ W.heap[N7]? = some (.cells #[.bool yl, .slice yka yks.length ykc, .slice yg.a yg.l.length yg.cap, .slice yia yis.length yic] 26 (0, 0)))) ((v4.setRow N13 #[.bool lA, .slice kaA ksA.length kcA, .slice gA.a gA.l.length gA.cap, .slice iaA isA.length icA]).setRow N14 #[.bool lB, .slice kaB ksB.length kcB, .slice gB.a gB.l.length gB.cap, .slice iaB isB.length icB]) := ⟨(st_keep (And.intro hS.1 hS.2.1) hx13.2.2.1 HL13.out.2).1, (st_keep (And.intro hS.1 hS.2.1) hx13.2.2.1 HL13.out.2).2, (st_keep (And.intro hS.1 hS.2.2) hx13.2.2.2 HL13.out.2).2⟩
          refine hK _ _ (fun _ => hS2) ?_
          simp only [Act.put]
          clear hS hK; have hS := hid hS2; clear hS2 hx13 hne
          refine Pe_done (by kernel_rfl) ?_ _
          go_wp2
          go_meet
          case rel => exact ⟨N13, N14, lA, kaA, kcA, ksA, gA, iaA, icA, isA, lB, kaB, kcB, ksB, gB, iaB, icB, isB, rfl, rfl, ⟨HA.out.1, HB.out.1⟩, ⟨HE.out.1, HE.out.2.1⟩, ⟨HE.out.2.2.1, HE.out.2.2.2.1⟩, hS.out.2, hS.out.1⟩
      · have hB : Adds v1 (v1.alloc NZ) := (Touch.refl _ _).alloc _
        have hS2 : (fun W : World => Adds w W ∧ (W.heap[N6]? = some (.cells #[.bool xl, .slice xka xks.length xkc, .slice xg.a xg.l.length xg.cap, .slice xia xis.length xic] 26 (0, 0)) ∧ W.heap[N7]? = some (.cells #[.bool yl, .slice yka yks.length ykc, .slice yg.a yg.l.length yg.cap, .slice yia yis.length yic] 26 (0, 0)))) (v1.alloc NZ) := ⟨hS.1.trans hB, box_adds hS.2.1 hB, box_adds hS.2.2 hB⟩
        refine EO_value 14 (v := .pointer (some ⟨v1.heap.size, 0, none⟩)) (w' := v1.alloc NZ) rfl rfl (by rfl) (by go_simp) hS2 ?_
        obtain ⟨N14, hN14⟩ : ∃ N, N = v1.heap.size := ⟨_, rfl⟩
        obtain ⟨v2, hv2⟩ : ∃ W, W = v1.alloc NZ := ⟨_, rfl⟩
        have ZN14 := hid (show v2.heap[N14]? = some NZ ∧ N14 = v1.heap.size by rw [hv2, hN14]; exact ⟨heap_alloc_new _ _, rfl⟩)
        rw [← hv2] at hB hS2
        rw [← hv2, ← hN14]
        have B2 := hid hB
        clear hB hv2 hN14
        clear hS; have hS := hS2; clear hS2
        simp only [Act.put, List.setIfInBounds_toArray, List.set_cons_zero, List.set_cons_succ]
        refine Pe_all (rs := [3, 4]) (by kernel_rfl) (by simp) (fun jj hj => ?_)
        simp only [List.mem_cons, List.not_mem_nil, or_false] at hj
        rcases hj with rfl | rfl
        · refine EO_call 40 10 #[.agg #[.bool yl, .slice yka yks.length ykc, .slice yg.a yg.l.length yg.cap, .slice yia yis.length yic]] rfl rfl (by rfl) (by go_simp) (HC2.out _ hS.1) ?_
          rintro e v3 ⟨lB, kaB, kcB, ksB, gB, iaB, icB, isB, rfl, HB⟩
          have B3 := hid HB.out.2.2
          have hS2 : (fun W : World => Adds w W ∧ (W.heap[N6]? = some (.cells #[.bool xl, .slice xka xks.length xkc, .slice xg.a xg.l.length xg.cap, .slice xia xis.length xic] 26 (0, 0)) ∧ W.heap[N7]? = some (.cells #[.bool yl, .slice yka yks.length ykc, .slice yg.a yg.l.length yg.cap, .slice yia yis.length yic] 26 (0, 0)))) v3 := ⟨hS.1.trans B3.out, box_adds hS.2.1 B3.out, box_adds hS.2.2 B3.out⟩
          refine ⟨_, rfl, hS2, ?_⟩
          clear hS; have hS := hS2; clear hS2
          simp only [Act.put, List.setIfInBounds_toArray, List.set_cons_zero, List.set_cons_succ]
          refine Pe_all (rs := [4]) (by kernel_rfl) (by simp) (fun jj hj => ?_)
          obtain rfl := List.mem_singleton.1 hj
          have hB : Adds v3 (v3.alloc NZ) := (Touch.refl _ _).alloc _
          have hS2 : (fun W : World => Adds w W ∧ (W.heap[N6]? = some (.cells #[.bool xl, .slice xka xks.length xkc, .slice xg.a xg.l.length xg.cap, .slice xia xis.length xic] 26 (0, 0)) ∧ W.heap[N7]? = some (.cells #[.bool yl, .slice yka yks.length ykc, .slice yg.a yg.l.length yg.cap, .slice yia yis.length yic] 26 (0, 0)))) (v3.alloc NZ) := ⟨hS.1.trans hB, box_adds hS.2.1 hB, box_adds hS.2.2 hB⟩
          refine EO_value 13 (v := .pointer (some ⟨v3.heap.size, 0, none⟩)) (w' := v3.alloc NZ) rfl rfl (by rfl) (by go_simp) hS2 ?_
          obtain ⟨N13, hN13⟩ : ∃ N, N = v3.heap.size := ⟨_, rfl⟩
          obtain ⟨v4, hv4⟩ : ∃ W, W = v3.alloc NZ := ⟨_, rfl⟩
          have ZN13 := hid (show v4.heap[N13]? = some NZ ∧ N13 = v3.heap.size by rw [hv4, hN13]; exact ⟨heap_alloc_new _ _, rfl⟩)
          rw [← hv4] at hB hS2
          rw [← hv4, ← hN13]
          have B4 := hid hB
          clear hB hv4 hN13
          clear hS; have hS := hS2; clear hS2
          simp only [Act.put, List.setIfInBounds_toArray, List.set_cons_zero, List.set_cons_succ]
          have hne : N13 ≠ N14 := by
            have q1 := (Array.getElem?_eq_some_iff.1 (box_adds ZN14.out.1 B3.out)).1
            have q2 := ZN13.out.2
            omega
          have HE := hid (copy_end (zx := ⟨lA, kaA, kcA, ksA, gA, iaA, icA, isA⟩) (zy := ⟨lB, kaB, kcB, ksB, gB, iaB, icB, isB⟩) ((HA.out.2.1.adds (B2.out.trans (B3.out.trans B4.out))).lower (A3.out.trans (adds_dr w3)).size) ((HB.out.2.1.adds B4.out).lower (A3.out.trans (((adds_dr w3).trans B1.out).trans B2.out)).size) ZN13.out.1 (box_adds ZN14.out.1 (B3.out.trans B4.out)) hne hS.1 (by rw [ZN13.out.2]; exact (A3.out.trans ((((adds_dr w3).trans B1.out).trans B2.out).trans B3.out)).size) (by rw [ZN14.out.2]; exact (A3.out.trans ((adds_dr w3).trans B1.out)).size) #[.bool lA, .slice kaA ksA.length kcA, .slice gA.a gA.l.length gA.cap, .slice iaA isA.length icA] #[.bool lB, .slice kaB ksB.length kcB, .slice gB.a gB.l.length gB.cap, .slice iaB isB.length icB])
          have K13 := hid ZN13.out.1
          have HL13 := hid (show w.heap.size ≤ N13 ∧ w.heap.size ≤ N14 by rw [ZN13.out.2, ZN14.out.2]; exact ⟨(A3.out.trans ((((adds_dr w3).trans B1.out).trans B2.out).trans B3.out)).size, (A3.out.trans ((adds_dr w3).trans B1.out)).size⟩)
          have hx13 : N6 ≠ N13 ∧ N7 ≠ N13 ∧ N6 ≠ N14 ∧ N7 ≠ N14 := by
            have q1 := (Array.getElem?_eq_some_iff.1 X3.out).1
            have q2 := (Array.getElem?_eq_some_iff.1 Y3.out).1
            have q3 := Nat.le_trans (Nat.le_refl _) ((((adds_dr w3).trans B1.out).trans B2.out).trans B3.out).size
            have q4 := Nat.le_trans (Nat.le_refl _) ((adds_dr w3).trans B1.out).size
            rw [← ZN13.out.2] at q3
            rw [← ZN14.out.2] at q4
            omega
          refine Pe_do (i := 6) none (by kernel_rfl) rfl rfl rfl (fun K' hK => ?_)
          refine Go.wp_store_row 28 _ _ rfl N13 #[.bool lA, .slice kaA ksA.length kcA, .slice gA.a gA.l.length gA.cap, .slice iaA isA.length icA] rfl rfl 28 _ K13.out (info4 _ _ _ _) rfl (one4 _ _ _ _ _ _ _ _ _ _) ?_
          have hS2 : (fun W : World => Adds w W ∧ (W.heap[N6]? = some (.cells #[.bool xl, .slice xka xks.length xkc, .slice xg.a xg.l.length xg.cap, .slice xia xis.length xic] 26 (0, 0)) ∧ W.heap[N7]? = some (.cells #[.bool yl, .slice yka yks.length ykc, .slice yg.a yg.l.length yg.cap, .slice yia yis.length yic] 26 (0, 0)))) (v4.setRow N13 #[.bool lA, .slice kaA ksA.length kcA, .slice gA.a gA.l.length gA.cap, .slice iaA isA.length icA]) := ⟨(st_keep (And.intro hS.1 hS.2.1) hx13.1 HL13.out.1).1, (st_keep (And.intro hS.1 hS.2.1) hx13.1 HL13.out.1).2, (st_keep (And.intro hS.1 hS.2.2) hx13.2.1 HL13.out.1).2⟩
          refine hK _ _ (fun _ => hS2) ?_
          simp only [Act.put]
          clear hS hK; have hS := hS2; clear hS2
          refine Pe_do (i := 7) none (by kernel_rfl) rfl rfl rfl (fun K' hK => ?_)
          refine Go.wp_store_row 28 _ _ rfl N14 #[.bool lB, .slice kaB ksB.length kcB, .slice gB.a gB.l.length gB.cap, .slice iaB isB.length icB] rfl rfl 28 _ HE.out.2.2.2.2.2 (info4 _ _ _ _) rfl (one4 _ _ _ _ _ _ _ _ _ _) ?_
          have hS2 : (fun W : World => Adds w W ∧ (W.heap[N6]? = some (.cells #[.bool xl, .slice xka xks.length xkc, .slice xg.a xg.l.length xg.cap, .slice xia xis.length xic] 26 (0, 0)) ∧ W.heap[N7]? = some (.cells #[.bool yl, .slice yka yks.length ykc, .slice yg.a yg.l.length yg.cap, .slice yia yis.length yic] 26 (0, 0)))) ((v4.setRow N13 #[.bool lA, .slice kaA ksA.length kcA, .slice gA.a gA.l.length gA.cap, .slice iaA isA.length icA]).setRow N14 #[.bool lB, .slice kaB ksB.length kcB, .slice gB.a gB.l.length gB.cap, .slice iaB isB.length icB]) := ⟨(st_keep (And.intro hS.1 hS.2.1) hx13.2.2.1 HL13.out.2).1, (st_keep (And.intro hS.1 hS.2.1) hx13.2.2.1 HL13.out.2).2, (st_keep (And.intro hS.1 hS.2.2) hx13.2.2.2 HL13.out.2).2⟩
          refine hK _ _ (fun _ => hS2) ?_
          simp only [Act.put]
          clear hS hK; have hS := hid hS2; clear hS2 hx13 hne
          refine Pe_done (by kernel_rfl) ?_ _
          go_wp2
          go_meet
          case rel => exact ⟨N13, N14, lA, kaA, kcA, ksA, gA, iaA, icA, isA, lB, kaB, kcB, ksB, gB, iaB, icB, isB, rfl, rfl, ⟨HA.out.1, HB.out.1⟩, ⟨HE.out.1, HE.out.2.1⟩, ⟨HE.out.2.2.1, HE.out.2.2.2.1⟩, hS.out.2, hS.out.1⟩
        · have hB : Adds v2 (v2.alloc NZ) := (Touch.refl _ _).alloc _
          have hS2 : (fun W : World => Adds w W ∧ (W.heap[N6]? = some (.cells #[.bool xl, .slice xka xks.length xkc, .slice xg.a xg.l.length xg.cap, .slice xia xis.length xic] 26 (0, 0)) ∧ W.heap[N7]? = some (.cells #[.bool yl, .slice yka yks.length ykc, .slice yg.a yg.l.length yg.cap, .slice yia yis.length yic] 26 (0, 0)))) (v2.alloc NZ) := ⟨hS.1.trans hB, box_adds hS.2.1 hB, box_adds hS.2.2 hB⟩
          refine EO_value 13 (v := .pointer (some ⟨v2.heap.size, 0, none⟩)) (w' := v2.alloc NZ) rfl rfl (by rfl) (by go_simp) hS2 ?_
          obtain ⟨N13, hN13⟩ : ∃ N, N = v2.heap.size := ⟨_, rfl⟩
          obtain ⟨v3, hv3⟩ : ∃ W, W = v2.alloc NZ := ⟨_, rfl⟩
          have ZN13 := hid (show v3.heap[N13]? = some NZ ∧ N13 = v2.heap.size by rw [hv3, hN13]; exact ⟨heap_alloc_new _ _, rfl⟩)
          rw [← hv3] at hB hS2
          rw [← hv3, ← hN13]
          have B3 := hid hB
          clear hB hv3 hN13
          clear hS; have hS := hS2; clear hS2
          simp only [Act.put, List.setIfInBounds_toArray, List.set_cons_zero, List.set_cons_succ]
          refine Pe_all (rs := [3]) (by kernel_rfl) (by simp) (fun jj hj => ?_)
          obtain rfl := List.mem_singleton.1 hj
          refine EO_call 40 10 #[.agg #[.bool yl, .slice yka yks.length ykc, .slice yg.a yg.l.length yg.cap, .slice yia yis.length yic]] rfl rfl (by rfl) (by go_simp) (HC2.out _ hS.1) ?_
          rintro e v4 ⟨lB, kaB, kcB, ksB, gB, iaB, icB, isB, rfl, HB⟩
          have B4 := hid HB.out.2.2
          have hS2 : (fun W : World => Adds w W ∧ (W.heap[N6]? = some (.cells #[.bool xl, .slice xka xks.length xkc, .slice xg.a xg.l.length xg.cap, .slice xia xis.length xic] 26 (0, 0)) ∧ W.heap[N7]? = some (.cells #[.bool yl, .slice yka yks.length ykc, .slice yg.a yg.l.length yg.cap, .slice yia yis.length yic] 26 (0, 0)))) v4 := ⟨hS.1.trans B4.out, box_adds hS.2.1 B4.out, box_adds hS.2.2 B4.out⟩
          refine ⟨_, rfl, hS2, ?_⟩
          clear hS; have hS := hS2; clear hS2
          simp only [Act.put, List.setIfInBounds_toArray, List.set_cons_zero, List.set_cons_succ]
          have hne : N13 ≠ N14 := by
            have q1 := (Array.getElem?_eq_some_iff.1 ZN14.out.1).1
            have q2 := ZN13.out.2
            omega
          have HE := hid (copy_end (zx := ⟨lA, kaA, kcA, ksA, gA, iaA, icA, isA⟩) (zy := ⟨lB, kaB, kcB, ksB, gB, iaB, icB, isB⟩) ((HA.out.2.1.adds (B2.out.trans (B3.out.trans B4.out))).lower (A3.out.trans (adds_dr w3)).size) (HB.out.2.1.lower (A3.out.trans ((((adds_dr w3).trans B1.out).trans B2.out).trans B3.out)).size) (box_adds ZN13.out.1 B4.out) (box_adds ZN14.out.1 (B3.out.trans B4.out)) hne hS.1 (by rw [ZN13.out.2]; exact (A3.out.trans (((adds_dr w3).trans B1.out).trans B2.out)).size) (by rw [ZN14.out.2]; exact (A3.out.trans ((adds_dr w3).trans B1.out)).size) #[.bool lA, .slice kaA ksA.length kcA, .slice gA.a gA.l.length gA.cap, .slice iaA isA.length icA] #[.bool lB, .slice kaB ksB.length kcB, .slice gB.a gB.l.length gB.cap, .slice iaB isB.length icB])
          have K13 := hid (box_adds ZN13.out.1 B4.out)
          have HL13 := hid (show w.heap.size ≤ N13 ∧ w.heap.size ≤ N14 by rw [ZN13.out.2, ZN14.out.2]; exact ⟨(A3.out.trans (((adds_dr w3).trans B1.out).trans B2.out)).size, (A3.out.trans ((adds_dr w3).trans B1.out)).size⟩)
          have hx13 : N6 ≠ N13 ∧ N7 ≠ N13 ∧ N6 ≠ N14 ∧ N7 ≠ N14 := by
            have q1 := (Array.getElem?_eq_some_iff.1 X3.out).1
            have q2 := (Array.getElem?_eq_some_iff.1 Y3.out).1
            have q3 := Nat.le_trans (Nat.le_refl _) (((adds_dr w3).trans B1.out).trans B2.out).size
            have q4 := Nat.le_trans (Nat.le_refl _) ((adds_dr w3).trans B1.out).size
            rw [← ZN13.out.2] at q3
            rw [← ZN14.out.2] at q4
            omega
          refine Pe_do (i := 6) none (by kernel_rfl) rfl rfl rfl (fun K' hK => ?_)
          refine Go.wp_store_row 28 _ _ rfl N13 #[.bool lA, .slice kaA ksA.length kcA, .slice gA.a gA.l.length gA.cap, .slice iaA isA.length icA] rfl rfl 28 _ K13.out (info4 _ _ _ _) rfl (one4 _ _ _ _ _ _ _ _ _ _) ?_
          have hS2 : (fun W : World => Adds w W ∧ (W.heap[N6]? = some (.cells #[.bool xl, .slice xka xks.length xkc, .slice xg.a xg.l.length xg.cap, .slice xia xis.length xic] 26 (0, 0)) ∧ W.heap[N7]? = some (.cells #[.bool yl, .slice yka yks.length ykc, .slice yg.a yg.l.length yg.cap, .slice yia yis.length yic] 26 (0, 0)))) (v4.setRow N13 #[.bool lA, .slice kaA ksA.length kcA, .slice gA.a gA.l.length gA.cap, .slice iaA isA.length icA]) := ⟨(st_keep (And.intro hS.1 hS.2.1) hx13.1 HL13.out.1).1, (st_keep (And.intro hS.1 hS.2.1) hx13.1 HL13.out.1).2, (st_keep (And.intro hS.1 hS.2.2) hx13.2.1 HL13.out.1).2⟩
          refine hK _ _ (fun _ => hS2) ?_
          simp only [Act.put]
          clear hS hK; have hS := hS2; clear hS2
          refine Pe_do (i := 7) none (by kernel_rfl) rfl rfl rfl (fun K' hK => ?_)
          refine Go.wp_store_row 28 _ _ rfl N14 #[.bool lB, .slice kaB ksB.length kcB, .slice gB.a gB.l.length gB.cap, .slice iaB isB.length icB] rfl rfl 28 _ HE.out.2.2.2.2.2 (info4 _ _ _ _) rfl (one4 _ _ _ _ _ _ _ _ _ _) ?_
          have hS2 : (fun W : World => Adds w W ∧ (W.heap[N6]? = some (.cells #[.bool xl, .slice xka xks.length xkc, .slice xg.a xg.l.length xg.cap, .slice xia xis.length xic] 26 (0, 0)) ∧ W.heap[N7]? = some (.cells #[.bool yl, .slice yka yks.length ykc, .slice yg.a yg.l.length yg.cap, .slice yia yis.length yic] 26 (0, 0)))) ((v4.setRow N13 #[.bool lA, .slice kaA ksA.length kcA, .slice gA.a gA.l.length gA.cap, .slice iaA isA.length icA]).setRow N14 #[.bool lB, .slice kaB ksB.length kcB, .slice gB.a gB.l.length gB.cap, .slice iaB isB.length icB]) := ⟨(st_keep (And.intro hS.1 hS.2.1) hx13.2.2.1 HL13.out.2).1, (st_keep (And.intro hS.1 hS.2.1) hx13.2.2.1 HL13.out.2).2, (st_keep (And.intro hS.1 hS.2.2) hx13.2.2.2 HL13.out.2).2⟩
          refine hK _ _ (fun _ => hS2) ?_
          simp only [Act.put]
          clear hS hK; have hS := hid hS2; clear hS2 hx13 hne
          refine Pe_done (by kernel_rfl) ?_ _
          go_wp2
          go_meet
          case rel => exact ⟨N13, N14, lA, kaA, kcA, ksA, gA, iaA, icA, isA, lB, kaB, kcB, ksB, gB, iaB, icB, isB, rfl, rfl, ⟨HA.out.1, HB.out.1⟩, ⟨HE.out.1, HE.out.2.1⟩, ⟨HE.out.2.2.1, HE.out.2.2.2.1⟩, hS.out.2, hS.out.1⟩
    · have hB : Adds w3.drew (w3.drew.alloc NZ) := (Touch.refl _ _).alloc _
      have hS2 : (fun W : World => Adds w W ∧ (W.heap[N6]? = some (.cells #[.bool xl, .slice xka xks.length xkc, .slice xg.a xg.l.length xg.cap, .slice xia xis.length xic] 26 (0, 0)) ∧ W.heap[N7]? = some (.cells #[.bool yl, .slice yka yks.length ykc, .slice yg.a yg.l.length yg.cap, .slice yia yis.length yic] 26 (0, 0)))) (w3.drew.alloc NZ) := ⟨hS.1.trans hB, box_adds hS.2.1 hB, box_adds hS.2.2 hB⟩
      refine EO_value 13 (v := .pointer (some ⟨w3.drew.heap.size, 0, none⟩)) (w' := w3.drew.alloc NZ) rfl rfl (by rfl) (by go_simp) hS2 ?_
      obtain ⟨N13, hN13⟩ : ∃ N, N = w3.drew.heap.size := ⟨_, rfl⟩
      obtain ⟨v1, hv1⟩ : ∃ W, W = w3.drew.alloc NZ := ⟨_, rfl⟩
      have ZN13 := hid (show v1.heap[N13]? = some NZ ∧ N13 = w3.drew.heap.size by rw [hv1, hN13]; exact ⟨heap_alloc_new _ _, rfl⟩)
      rw [← hv1] at hB hS2
      rw [← hv1, ← hN13]
      have B1 := hid hB
      clear hB hv1 hN13
      clear hS; have hS := hS2; clear hS2
      simp only [Act.put, List.setIfInBounds_toArray, List.set_cons_zero, List.set_cons_succ]
      refine Pe_all (rs := [1, 5]) (by kernel_rfl) (by simp) (fun jj hj => ?_)
      simp only [List.mem_cons, List.not_mem_nil, or_false] at hj
      rcases hj with rfl | rfl
      · refine EO_call 38 10 #[.agg #[.bool xl, .slice xka xks.length xkc, .slice xg.a xg.l.length xg.cap, .slice xia xis.length xic]] rfl rfl (by rfl) (by go_simp) (HC.out _ hS.1) ?_
        rintro e v2 ⟨lA, kaA, kcA, ksA, gA, iaA, icA, isA, rfl, HA⟩
        have B2 := hid HA.out.2.2
        have hS2 : (fun W : World => Adds w W ∧ (W.heap[N6]? = some (.cells #[.bool xl, .slice xka xks.length xkc, .slice xg.a xg.l.length xg.cap, .slice xia xis.length xic] 26 (0, 0)) ∧ W.heap[N7]? = some (.cells #[.bool yl, .slice yka yks.length ykc, .slice yg.a yg.l.length yg.cap, .slice yia yis.length yic] 26 (0, 0)))) v2 := ⟨hS.1.trans B2.out, box_adds hS.2.1 B2.out, box_adds hS.2.2 B2.out⟩
        refine ⟨_, rfl, hS2, ?_⟩
        clear hS; have hS := hS2; clear hS2
        simp only [Act.put, List.setIfInBounds_toArray, List.set_cons_zero, List.set_cons_succ]
        refine Pe_all (rs := [3, 5]) (by kernel_rfl) (by simp) (fun jj hj => ?_)
        simp only [List.mem_cons, List.not_mem_nil, or_false] at hj
        rcases hj with rfl | rfl
        · refine EO_call 40 10 #[.agg #[.bool yl, .slice yka yks.length ykc, .slice yg.a yg.l.length yg.cap, .slice yia yis.length yic]] rfl rfl (by rfl) (by go_simp) (HC2.out _ hS.1) ?_
          rintro e v3 ⟨lB, kaB, kcB, ksB, gB, iaB, icB, isB, rfl, HB⟩
          have B3 := hid HB.out.2.2
          have hS2 : (fun W : World => Adds w W ∧ (W.heap[N6]? = some (.cells #[.bool xl, .slice xka xks.length xkc, .slice xg.a xg.l.length xg.cap, .slice xia xis.length xic] 26 (0, 0)) ∧ W.heap[N7]? = some (.cells #[.bool yl, .slice yka yks.length ykc, .slice yg.a yg.l.length yg.cap, .slice yia yis.length yic] 26 (0, 0)))) v3 := ⟨hS.1.trans B3.out, box_adds hS.2.1 B3.out, box_adds hS.2.2 B3.out⟩
          refine ⟨_, rfl, hS2, ?_⟩
          clear hS; have hS := hS2; clear hS2
          simp only [Act.put, List.setIfInBounds_toArray, List.set_cons_zero, List.set_cons_succ]
          refine Pe_all (rs := [5]) (by kernel_rfl) (by simp) (fun jj hj => ?_)
          obtain rfl := List.mem_singleton.1 hj
          have hB : Adds v3 (v3.alloc NZ) := (Touch.refl _ _).alloc _
          have hS2 : (fun W : World => Adds w W ∧ (W.heap[N6]? = some (.cells #[.bool xl, .slice xka xks.length xkc, .slice xg.a xg.l.length xg.cap, .slice xia xis.length xic] 26 (0, 0)) ∧ W.heap[N7]? = some (.cells #[.bool yl, .slice yka yks.length ykc, .slice yg.a yg.l.length yg.cap, .slice yia yis.length yic] 26 (0, 0)))) (v3.alloc NZ) := ⟨hS.1.trans hB, box_adds hS.2.1 hB, box_adds hS.2.2 hB⟩
          refine EO_value 14 (v := .pointer (some ⟨v3.heap.size, 0, none⟩)) (w' := v3.alloc NZ) rfl rfl (by rfl) (by go_simp) hS2 ?_
          obtain ⟨N14, hN14⟩ : ∃ N, N = v3.heap.size := ⟨_, rfl⟩
          obtain ⟨v4, hv4⟩ : ∃ W, W = v3.alloc NZ := ⟨_, rfl⟩
          have ZN14 := hid (show v4.heap[N14]? = some NZ ∧ N14 = v3.heap.size by rw [hv4, hN14]; exact ⟨heap_alloc_new _ _, rfl⟩)
          rw [← hv4] at hB hS2
          rw [← hv4, ← hN14]
          have B4 := hid hB
          clear hB hv4 hN14
          clear hS; have hS := hS2; clear hS2
          simp only [Act.put, List.setIfInBounds_toArray, List.set_cons_zero, List.set_cons_succ]
          have hne : N13 ≠ N14 := by
            have q1 := (Array.getElem?_eq_some_iff.1 (box_adds (box_adds ZN13.out.1 B2.out) B3.out)).1
            have q2 := ZN14.out.2
            omega
          have HE := hid (copy_end (zx := ⟨lA, kaA, kcA, ksA, gA, iaA, icA, isA⟩) (zy := ⟨lB, kaB, kcB, ksB, gB, iaB, icB, isB⟩) ((HA.out.2.1.adds (B3.out.trans B4.out)).lower (A3.out.trans ((adds_dr w3).trans B1.out)).size) ((HB.out.2.1.adds B4.out).lower (A3.out.trans (((adds_dr w3).trans B1.out).trans B2.out)).size) (box_adds ZN13.out.1 (B2.out.trans (B3.out.trans B4.out))) ZN14.out.1 hne hS.1 (by rw [ZN13.out.2]; exact (A3.out.trans (adds_dr w3)).size) (by rw [ZN14.out.2]; exact (A3.out.trans ((((adds_dr w3).trans B1.out).trans B2.out).trans B3.out)).size) #[.bool lA, .slice kaA ksA.length kcA, .slice gA.a gA.l.length gA.cap, .slice iaA isA.length icA] #[.bool lB, .slice kaB ksB.length kcB, .slice gB.a gB.l.length gB.cap, .slice iaB isB.length icB])
          have K13 := hid (box_adds ZN13.out.1 (B2.out.trans (B3.out.trans B4.out)))
          have HL13 := hid (show w.heap.size ≤ N13 ∧ w.heap.size ≤ N14 by rw [ZN13.out.2, ZN14.out.2]; exact ⟨(A3.out.trans (adds_dr w3)).size, (A3.out.trans ((((adds_dr w3).trans B1.out).trans B2.out).trans B3.out)).size⟩)
          have hx13 : N6 ≠ N13 ∧ N7 ≠ N13 ∧ N6 ≠ N14 ∧ N7 ≠ N14 := by
            have q1 := (Array.getElem?_eq_some_iff.1 X3.out).1
            have q2 := (Array.getElem?_eq_some_iff.1 Y3.out).1
            have q3 := Nat.le_trans (Nat.le_refl _) (adds_dr w3).size
            have q4 := Nat.le_trans (Nat.le_refl _) ((((adds_dr w3).trans B1.out).trans B2.out).trans B3.out).size
            rw [← ZN13.out.2] at q3
            rw [← ZN14.out.2] at q4
            omega
          refine Pe_do (i := 6) none (by kernel_rfl) rfl rfl rfl (fun K' hK => ?_)
          refine Go.wp_store_row 28 _ _ rfl N13 #[.bool lA, .slice kaA ksA.length kcA, .slice gA.a gA.l.length gA.cap, .slice iaA isA.length icA] rfl rfl 28 _ K13.out (info4 _ _ _ _) rfl (one4 _ _ _ _ _ _ _ _ _ _) ?_
          have hS2 : (fun W : World => Adds w W ∧ (W.heap[N6]? = some (.cells #[.bool xl, .slice xka xks.length xkc, .slice xg.a xg.l.length xg.cap, .slice xia xis.length xic] 26 (0, 0)) ∧ W.heap[N7]? = some (.cells #[.bool yl, .slice yka yks.length ykc, .slice yg.a yg.l.length yg.cap, .slice yia yis.length yic] 26 (0, 0)))) (v4.setRow N13 #[.bool lA, .slice kaA ksA.length kcA, .slice gA.a gA.l.length gA.cap, .slice iaA isA.length icA]) := ⟨(st_keep (And.intro hS.1 hS.2.1) hx13.1 HL13.out.1).1, (st_keep (And.intro hS.1 hS.2.1) hx13.1 HL13.out.1).2, (st_keep (And.intro hS.1 hS.2.2) hx13.2.1 HL13.out.1).2⟩
          refine hK _ _ (fun _ => hS2) ?_
          simp only [Act.put]
          clear hS hK; have hS := hS2; clear hS2
          refine Pe_do (i := 7) none (by kernel_rfl) rfl rfl rfl (fun K' hK => ?_)
          refine Go.wp_store_row 28 _ _ rfl N14 #[.bool lB, .slice kaB ksB.length kcB, .slice gB.a gB.l.length gB.cap, .slice iaB isB.length icB] rfl rfl 28 _ HE.out.2.2.2.2.2 (info4 _ _ _ _) rfl (one4 _ _ _ _ _ _ _ _ _ _) ?_
          have hS2 : (fun W : World => Adds w W ∧ (W.heap[N6]? = some (.cells #[.bool xl, .slice xka xks.length xkc, .slice xg.a xg.l.length xg.cap, .slice xia xis.length xic] 26 (0, 0)) ∧ W.heap[N7]? = some (.cells #[.bool yl, .slice yka yks.length ykc, .slice yg.a yg.l.length yg.cap, .slice yia yis.length yic] 26 (0, 0)))) ((v4.setRow N13 #[.bool lA, .slice kaA ksA.length kcA, .slice gA.a gA.l.length gA.cap, .slice iaA isA.length icA]).setRow N14 #[.bool lB, .slice kaB ksB.length kcB, .slice gB.a gB.l.length gB.cap, .slice iaB isB.length icB]) := ⟨(st_keep (And.intro hS.1 hS.2.1) hx13.2.2.1 HL13.out.2).1, (st_keep (And.intro hS.1 hS.2.1) hx13.2.2.1 HL13.out.2).2, (st_keep (And.intro hS.1 hS.2.2) hx13.2.2.2 HL13.out.2).2⟩
          refine hK _ _ (fun _ => hS2) ?_
          simp only [Act.put]
          clear hS hK; have hS := hid hS2; clear hS2 hx13 hne
          refine Pe_done (by kernel_rfl) ?_ _
          go_wp2
          go_meet
          case rel => exact ⟨N13, N14, lA, kaA, kcA, ksA, gA, iaA, icA, isA, lB, kaB, kcB, ksB, gB, iaB, icB, isB, rfl, rfl, ⟨HA.out.1, HB.out.1⟩, ⟨HE.out.1, HE.out.2.1⟩, ⟨HE.out.2.2.1, HE.out.2.2.2.1⟩, hS.out.2, hS.out.1⟩
        · have hB : Adds v2 (v2.alloc NZ) := (Touch.refl _ _).alloc _
          have hS2 : (fun W : World => Adds w W ∧ (W.heap[N6]? = some (.cells #[.bool xl, .slice xka xks.length xkc, .slice xg.a xg.l.length xg.cap, .slice xia xis.length xic] 26 (0, 0)) ∧ W.heap[N7]? = some (.cells #[.bool yl, .slice yka yks.length ykc, .slice yg.a yg.l.length yg.cap, .slice yia yis.length yic] 26 (0, 0)))) (v2.alloc NZ) := ⟨hS.1.trans hB, box_adds hS.2.1 hB, box_adds hS.2.2 hB⟩
          refine EO_value 14 (v := .pointer (some ⟨v2.heap.size, 0, none⟩)) (w' := v2.alloc NZ) rfl rfl (by rfl) (by go_simp) hS2 ?_
          obtain ⟨N14, hN14⟩ : ∃ N, N = v2.heap.size := ⟨_, rfl⟩
          obtain ⟨v3, hv3⟩ : ∃ W, W = v2.alloc NZ := ⟨_, rfl⟩
          have ZN14 := hid (show v3.heap[N14]? = some NZ ∧ N14 = v2.heap.size by rw [hv3, hN14]; exact ⟨heap_alloc_new _ _, rfl⟩)
          rw [← hv3] at hB hS2
          rw [← hv3, ← hN14]
          have B3 := hid hB
          clear hB hv3 hN14
          clear hS; have hS := hS2; clear hS2
          simp only [Act.put, List.setIfInBounds_toArray, List.set_cons_zero, List.set_cons_succ]
          refine Pe_all (rs := [3]) (by kernel_rfl) (by simp) (fun jj hj => ?_)
          obtain rfl := List.mem_singleton.1 hj
          refine EO_call 40 10 #[.agg #[.bool yl, .slice yka yks.length ykc, .slice yg.a yg.l.length yg.cap, .slice yia yis.length yic]] rfl rfl (by rfl) (by go_simp) (HC2.out _ hS.1) ?_
          rintro e v4 ⟨lB, kaB, kcB, ksB, gB, iaB, icB, isB, rfl, HB⟩
          have B4 := hid HB.out.2.2
          have hS2 : (fun W : World => Adds w W ∧ (W.heap[N6]? = some (.cells #[.bool xl, .slice xka xks.length xkc, .slice xg.a xg.l.length xg.cap, .slice xia xis.length xic] 26 (0, 0)) ∧ W.heap[N7]? = some (.cells #[.bool yl, .slice yka yks.length ykc, .slice yg.a yg.l.length yg.cap, .slice yia yis.length yic] 26 (0, 0)))) v4 := ⟨hS.1.trans B4.out, box_adds hS.2.1 B4.out, box_adds hS.2.2 B4.out⟩
          refine ⟨_, rfl, hS2, ?_⟩
          clear hS; have hS := hS2; clear hS2
          simp only [Act.put, List.setIfInBounds_toArray, List.set_cons_zero, List.set_cons_succ]
          have hne : N13 ≠ N14 := by
            have q1 := (Array.getElem?_eq_some_iff.1 (box_adds ZN13.out.1 B2.out)).1
            have q2 := ZN14.out.2
            omega
          have HE := hid (copy_end (zx := ⟨lA, kaA, kcA, ksA, gA, iaA, icA, isA⟩) (zy := ⟨lB, kaB, kcB, ksB, gB, iaB, icB, isB⟩) ((HA.out.2.1.adds (B3.out.trans B4.out)).lower (A3.out.trans ((adds_dr w3).trans B1.out)).size) (HB.out.2.1.lower (A3.out.trans ((((adds_dr w3).trans B1.out).trans B2.out).trans B3.out)).size) (box_adds ZN13.out.1 (B2.out.trans (B3.out.trans B4.out))) (box_adds ZN14.out.1 B4.out) hne hS.1 (by rw [ZN13.out.2]; exact (A3.out.trans (adds_dr w3)).size) (by rw [ZN14.out.2]; exact (A3.out.trans (((adds_dr w3).trans B1.out).trans B2.out)).size) #[.bool lA, .slice kaA ksA.length kcA, .slice gA.a gA.l.length gA.cap, .slice iaA isA.length icA] #[.bool lB, .slice kaB ksB.length kcB, .slice gB.a gB.l.length gB.cap, .slice iaB isB.length icB])
          have K13 := hid (box_adds ZN13.out.1 (B2.out.trans (B3.out.trans B4.out)))
          have HL13 := hid (show w.heap.size ≤ N13 ∧ w.heap.size ≤ N14 by rw [ZN13.out.2, ZN14.out.2]; exact ⟨(A3.out.trans (adds_dr w3)).size, (A3.out.trans (((adds_dr w3).trans B1.out).trans B2.out)).size⟩)
          have hx13 : N6 ≠ N13 ∧ N7 ≠ N13 ∧ N6 ≠ N14 ∧ N7 ≠ N14 := by
            have q1 := (Array.getElem?_eq_some_iff.1 X3.out).1
            have q2 := (Array.getElem?_eq_some_iff.1 Y3.out).1
            have q3 := Nat.le_trans (Nat.le_refl _) (adds_dr w3).size
            have q4 := Nat.le_trans (Nat.le_refl _) (((adds_dr w3).trans B1.out).trans B2.out).size
            rw [← ZN13.out.2] at q3
            rw [← ZN14.out.2] at q4
            omega
          refine Pe_do (i := 6) none (by kernel_rfl) rfl rfl rfl (fun K' hK => ?_)
          refine Go.wp_store_row 28 _ _ rfl N13 #[.bool lA, .slice kaA ksA.length kcA, .slice gA.a gA.l.length gA.cap, .slice iaA isA.length icA] rfl rfl 28 _ K13.out (info4 _ _ _ _) rfl (one4 _ _ _ _ _ _ _ _ _ _) ?_
          have hS2 : (fun W : World => Adds w W ∧ (W.heap[N6]? = some (.cells #[.bool xl, .slice xka xks.length xkc, .slice xg.a xg.l.length xg.cap, .slice xia xis.length xic] 26 (0, 0)) ∧ W.heap[N7]? = some (.cells #[.bool yl, .slice yka yks.length ykc, .slice yg.a yg.l.length yg.cap, .slice yia yis.length yic] 26 (0, 0)))) (v4.setRow N13 #[.bool lA, .slice kaA ksA.length kcA, .slice gA.a gA.l.length gA.cap, .slice iaA isA.length icA]) := ⟨(st_keep (And.intro hS.1 hS.2.1) hx13.1 HL13.out.1).1, (st_keep (And.intro hS.1 hS.2.1) hx13.1 HL13.out.1).2, (st_keep (And.intro hS.1 hS.2.2) hx13.2.1 HL13.out.1).2⟩
          refine hK _ _ (fun _ => hS2) ?_
          simp only [Act.put]
          clear hS hK; have hS := hS2; clear hS2
          refine Pe_do (i := 7) none (by kernel_rfl) rfl rfl rfl (fun K' hK => ?_)
          refine Go.wp_store_row 28 _ _ rfl N14 #[.bool lB, .slice kaB ksB.length kcB, .slice gB.a gB.l.length gB.cap, .slice iaB isB.length icB] rfl rfl 28 _ HE.out.2.2.2.2.2 (info4 _ _ _ _) rfl (one4 _ _ _ _ _ _ _ _ _ _) ?_
          have hS2 : (fun W : World => Adds w W ∧ (W.heap[N6]? = some (.cells #[.bool xl, .slice xka xks.length xkc, .slice xg.a xg.l.length xg.cap, .slice xia xis.length xic] 26 (0, 0)) ∧ W.heap[N7]? = some (.cells #[.bool yl, .slice yka yks.length ykc, .slice yg.a yg.l.length yg.cap, .slice yia yis.length yic] 26 (0, 0)))) ((v4.setRow N13 #[.bool lA, .slice kaA ksA.length kcA, .slice gA.a gA.l.length gA.cap, .slice iaA isA.length icA]).setRow N14 #[.bool lB, .slice kaB ksB.length kcB, .slice gB.a gB.l.length gB.cap, .slice iaB isB.length icB]) := ⟨(st_keep (And.intro hS.1 hS.2.1) hx13.2.2.1 HL13.out.2).1, (st_keep (And.intro hS.1 hS.2.1) hx13.2.2.1 HL13.out.2).2, (st_keep (And.intro hS.1 hS.2.2) hx13.2.2.2 HL13.out.2).2⟩
          refine hK _ _ (fun _ => hS2) ?_
          simp only [Act.put]
          clear hS hK; have hS := hid hS2; clear hS2 hx13 hne
          refine Pe_done (by kernel_rfl) ?_ _
          go_wp2
          go_meet
          case rel => exact ⟨N13, N14, lA, kaA, kcA, ksA, gA, iaA, icA, isA, lB, kaB, kcB, ksB, gB, iaB, icB, isB, rfl, rfl, ⟨HA.out.1, HB.out.1⟩, ⟨HE.out.1, HE.out.2.1⟩, ⟨HE.out.2.2.1, HE.out.2.2.2.1⟩, hS.out.2, hS.out.1⟩
      · have hB : Adds v1 (v1.alloc NZ) := (Touch.refl _ _).alloc _
        have hS2 : (fun W : World => Adds w W ∧ (W.heap[N6]? = some (.cells #[.bool xl, .slice xka xks.length xkc, .slice xg.a xg.l.length xg.cap, .slice xia xis.length xic] 26 (0, 0)) ∧ W.heap[N7]? = some (.cells #[.bool yl, .slice yka yks.length ykc, .slice yg.a yg.l.length yg.cap, .slice yia yis.length yic] 26 (0, 0)))) (v1.alloc NZ) := ⟨hS.1.trans hB, box_adds hS.2.1 hB, box_adds hS.2.2 hB⟩
        refine EO_value 14 (v := .pointer (some ⟨v1.heap.size, 0, none⟩)) (w' := v1.alloc NZ) rfl rfl (by rfl) (by go_simp) hS2 ?_
        obtain ⟨N14, hN14⟩ : ∃ N, N = v1.heap.size := ⟨_, rfl⟩
        obtain ⟨v2, hv2⟩ : ∃ W, W = v1.alloc NZ := ⟨_, rfl⟩
        have ZN14 := hid (show v2.heap[N14]? = some NZ ∧ N14 = v1.heap.size by rw [hv2, hN14]; exact ⟨heap_alloc_new _ _, rfl⟩)
        rw [← hv2] at hB hS2
        rw [← hv2, ← hN14]
        have B2 := hid hB
        clear hB hv2 hN14
        clear hS; have hS := hS2; clear hS2
        simp only [Act.put, List.setIfInBounds_toArray, List.set_cons_zero, List.set_cons_succ]
        refine Pe_all (rs := [1]) (by kernel_rfl) (by simp) (fun jj hj => ?_)
        obtain rfl := List.mem_singleton.1 hj
        refine EO_call 38 10 #[.agg #[.bool xl, .slice xka xks.length xkc, .slice xg.a xg.l.length xg.cap, .slice xia xis.length xic]] rfl rfl (by rfl) (by go_simp) (HC.out _ hS.1) ?_
        rintro e v3 ⟨lA, kaA, kcA, ksA, gA, iaA, icA, isA, rfl, HA⟩
        have B3 := hid HA.out.2.2
        have hS2 : (fun W : World => Adds w W ∧ (W.heap[N6]? = some (.cells #[.bool xl, .slice xka xks.length xkc, .slice xg.a xg.l.length xg.cap, .slice xia xis.length xic] 26 (0, 0)) ∧ W.heap[N7]? = some (.cells #[.bool yl, .slice yka yks.length ykc, .slice yg.a yg.l.length yg.cap, .slice yia yis.length yic] 26 (0, 0)))) v3 := ⟨hS.1.trans B3.out, box_adds hS.2.1 B3.out, box_adds hS.2.2 B3.out⟩
        refine ⟨_, rfl, hS2, ?_⟩
        clear hS; have hS := hS2; clear hS2
        simp only [Act.put, List.setIfInBounds_toArray, List.set_cons_zero, List.set_cons_succ]
        refine Pe_all (rs := [3]) (by kernel_rfl) (by simp) (fun jj hj => ?_)
        obtain rfl := List.mem_singleton.1 hj
        refine EO_call 40 10 #[.agg #[.bool yl, .slice yka yks.length ykc, .slice yg.a yg.l.length yg.cap, .slice yia yis.length yic]] rfl rfl (by rfl) (by go_simp) (HC2.out _ hS.1) ?_
        rintro e v4 ⟨lB, kaB, kcB, ksB, gB, iaB, icB, isB, rfl, HB⟩
        have B4 := hid HB.out.2.2
        have hS2 : (fun W : World => Adds w W ∧ (W.heap[N6]? = some (.cells #[.bool xl, .slice xka xks.length xkc, .slice xg.a xg.l.length xg.cap, .slice xia xis.length xic] 26 (0, 0)) ∧ W.heap[N7]? = some (.cells #[.bool yl, .slice yka yks.length ykc, .slice yg.a yg.l.length yg.cap, .slice yia yis.length yic] 26 (0, 0)))) v4 := ⟨hS.1.trans B4.out, box_adds hS.2.1 B4.out, box_adds hS.2.2 B4.out⟩
        refine ⟨_, rfl, hS2, ?_⟩
        clear hS; have hS := hS2; clear hS2
        simp only [Act.put, List.setIfInBounds_toArray, List.set_cons_zero, List.set_cons_succ]
        have hne : N13 ≠ N14 := by
          have q1 := (Array.getElem?_eq_some_iff.1 ZN13.out.1).1
          have q2 := ZN14.out.2
          omega
        have HE := hid (copy_end (zx := ⟨lA, kaA, kcA, ksA, gA, iaA, icA, isA⟩) (zy := ⟨lB, kaB, kcB, ksB, gB, iaB, icB, isB⟩) ((HA.out.2.1.adds B4.out).lower (A3.out.trans (((adds_dr w3).trans B1.out).trans B2.out)).size) (HB.out.2.1.lower (A3.out.trans ((((adds_dr w3).trans B1.out).trans B2.out).trans B3.out)).size) (box_adds ZN13.out.1 (B2.out.trans (B3.out.trans B4.out))) (box_adds ZN14.out.1 (B3.out.trans B4.out)) hne hS.1 (by rw [ZN13.out.2]; exact (A3.out.trans (adds_dr w3)).size) (by rw [ZN14.out.2]; exact (A3.out.trans ((adds_dr w3).trans B1.out)).size) #[.bool lA, .slice kaA ksA.length kcA, .slice gA.a gA.l.length gA.cap, .slice iaA isA.length icA] #[.bool lB, .slice kaB ksB.length kcB, .slice gB.a gB.l.length gB.cap, .slice iaB isB.length icB])
        have K13 := hid (box_adds ZN13.out.1 (B2.out.trans (B3.out.trans B4.out)))
        have HL13 := hid (show w.heap.size ≤ N13 ∧ w.heap.size ≤ N14 by rw [ZN13.out.2, ZN14.out.2]; exact ⟨(A3.out.trans (adds_dr w3)).size, (A3.out.trans ((adds_dr w3).trans B1.out)).size⟩)
        have hx13 : N6 ≠ N13 ∧ N7 ≠ N13 ∧ N6 ≠ N14 ∧ N7 ≠ N14 := by
          have q1 := (Array.getElem?_eq_some_iff.1 X3.out).1
          have q2 := (Array.getElem?_eq_some_iff.1 Y3.out).1
          have q3 := Nat.le_trans (Nat.le_refl _) (adds_dr w3).size
          have q4 := Nat.le_trans (Nat.le_refl _) ((adds_dr w3).trans B1.out).size
          rw [← ZN13.out.2] at q3
          rw [← ZN14.out.2] at q4
          omega
        refine Pe_do (i := 6) none (by kernel_rfl) rfl rfl rfl (fun K' hK => ?_)
        refine Go.wp_store_row 28 _ _ rfl N13 #[.bool lA, .slice kaA ksA.length kcA, .slice gA.a gA.l.length gA.cap, .slice iaA isA.length icA] rfl rfl 28 _ K13.out (info4 _ _ _ _) rfl (one4 _ _ _ _ _ _ _ _ _ _) ?_
        have hS2 : (fun W : World => Adds w W ∧ (W.heap[N6]? = some (.cells #[.bool xl, .slice xka xks.length xkc, .slice xg.a xg.l.length xg.cap, .slice xia xis.length xic] 26 (0, 0)) ∧ W.heap[N7]? = some (.cells #[.bool yl, .slice yka yks.length ykc, .slice yg.a yg.l.length yg.cap, .slice yia yis.length yic] 26 (0, 0)))) (v4.setRow N13 #[.bool lA, .slice kaA ksA.length kcA, .slice gA.a gA.l.length gA.cap, .slice iaA isA.length icA]) := ⟨(st_keep (And.intro hS.1 hS.2.1) hx13.1 HL13.out.1).1, (st_keep (And.intro hS.1 hS.2.1) hx13.1 HL13.out.1).2, (st_keep (And.intro hS.1 hS.2.2) hx13.2.1 HL13.out.1).2⟩
        refine hK _ _ (fun _ => hS2) ?_
        simp only [Act.put]
        clear hS hK; have hS := hS2; clear hS2
        refine Pe_do (i := 7) none (by kernel_rfl) rfl rfl rfl (fun K' hK => ?_)
        refine Go.wp_store_row 28 _ _ rfl N14 #[.bool lB, .slice kaB ksB.length kcB, .slice gB.a gB.l.length gB.cap, .slice iaB isB.length icB] rfl rfl 28 _ HE.out.2.2.2.2.2 (info4 _ _ _ _) rfl (one4 _ _ _ _ _ _ _ _ _ _) ?_
        have hS2 : (fun W : World => Adds w W ∧ (W.heap[N6]? = some (.cells #[.bool xl, .slice xka xks.length xkc, .slice xg.a xg.l.length xg.cap, .slice xia xis.length xic] 26 (0, 0)) ∧ W.heap[N7]? = some (.cells #[.bool yl, .slice yka yks.length ykc, .slice yg.a yg.l.length yg.cap, .slice yia yis.length yic] 26 (0, 0)))) ((v4.setRow N13 #[.bool lA, .slice kaA ksA.length kcA, .slice gA.a gA.l.length gA.cap, .slice iaA isA.length icA]).setRow N14 #[.bool lB, .slice kaB ksB.length kcB, .slice gB.a gB.l.length gB.cap, .slice iaB isB.length icB]) := ⟨(st_keep (And.intro hS.1 hS.2.1) hx13.2.2.1 HL13.out.2).1, (st_keep (And.intro hS.1 hS.2.1) hx13.2.2.1 HL13.out.2).2, (st_keep (And.intro hS.1 hS.2.2) hx13.2.2.2 HL13.out.2).2⟩
        refine hK _ _ (fun _ => hS2) ?_
        simp only [Act.put]
        clear hS hK; have hS := hid hS2; clear hS2 hx13 hne
        refine Pe_done (by kernel_rfl) ?_ _
        go_wp2
        go_meet
        case rel => exact ⟨N13, N14, lA, kaA, kcA, ksA, gA, iaA, icA, isA, lB, kaB, kcB, ksB, gB, iaB, icB, isB, rfl, rfl, ⟨HA.out.1, HB.out.1⟩, ⟨HE.out.1, HE.out.2.1⟩, ⟨HE.out.2.2.1, HE.out.2.2.2.1⟩, hS.out.2, hS.out.1⟩
    · have hB : Adds w3.drew (w3.drew.alloc NZ) := (Touch.refl _ _).alloc _
      have hS2 : (fun W : World => Adds w W ∧ (W.heap[N6]? = some (.cells #[.bool xl, .slice xka xks.length xkc, .slice xg.a xg.l.length xg.cap, .slice xia xis.length xic] 26 (0, 0)) ∧ W.heap[N7]? = some (.cells #[.bool yl, .slice yka yks.length ykc, .slice yg.a yg.l.length yg.cap, .slice yia yis.length yic] 26 (0, 0)))) (w3.drew.alloc NZ) := ⟨hS.1.trans hB, box_adds hS.2.1 hB, box_adds hS.2.2 hB⟩
      refine EO_value 14 (v := .pointer (some ⟨w3.drew.heap.size, 0, none⟩)) (w' := w3.drew.alloc NZ) rfl rfl (by rfl) (by go_simp) hS2 ?_
      obtain ⟨N14, hN14⟩ : ∃ N, N = w3.drew.heap.size := ⟨_, rfl⟩
      obtain ⟨v1, hv1⟩ : ∃ W, W = w3.drew.alloc NZ := ⟨_, rfl⟩
      have ZN14 := hid (show v1.heap[N14]? = some NZ ∧ N14 = w3.drew.heap.size by rw [hv1, hN14]; exact ⟨heap_alloc_new _ _, rfl⟩)
      rw [← hv1] at hB hS2
      rw [← hv1, ← hN14]
      have B1 := hid hB
      clear hB hv1 hN14
      clear hS; have hS := hS2; clear hS2
      simp only [Act.put, List.setIfInBounds_toArray, List.set_cons_zero, List.set_cons_succ]
      refine Pe_all (rs := [1, 4]) (by kernel_rfl) (by simp) (fun jj hj => ?_)
      simp only [List.mem_cons, List.not_mem_nil, or_false] at hj
      rcases hj with rfl | rfl
      · refine EO_call 38 10 #[.agg #[.bool xl, .slice xka xks.length xkc, .slice xg.a xg.l.length xg.cap, .slice xia xis.length xic]] rfl rfl (by rfl) (by go_simp) (HC.out _ hS.1) ?_
        rintro e v2 ⟨lA, kaA, kcA, ksA, gA, iaA, icA, isA, rfl, HA⟩
        have B2 := hid HA.out.2.2
        have hS2 : (fun W : World => Adds w W ∧ (W.heap[N6]? = some (.cells #[.bool xl, .slice xka xks.length xkc, .slice xg.a xg.l.length xg.cap, .slice xia xis.length xic] 26 (0, 0)) ∧ W.heap[N7]? = some (.cells #[.bool yl, .slice yka yks.length ykc, .slice yg.a yg.l.length yg.cap, .slice yia yis.length yic] 26 (0, 0)))) v2 := ⟨hS.1.trans B2.out, box_adds hS.2.1 B2.out, box_adds hS.2.2 B2.out⟩
        refine ⟨_, rfl, hS2, ?_⟩
        clear hS; have hS := hS2; clear hS2
        simp only [Act.put, List.setIfInBounds_toArray, List.set_cons_zero, List.set_cons_succ]
        refine Pe_all (rs := [3, 4]) (by kernel_rfl) (by simp) (fun jj hj => ?_)
        simp only [List.mem_cons, List.not_mem_nil, or_false] at hj
        rcases hj with rfl | rfl
        · refine EO_call 40 10 #[.agg #[.bool yl, .slice yka yks.length ykc, .slice yg.a yg.l.length yg.cap, .slice yia yis.length yic]] rfl rfl (by rfl) (by go_simp) (HC2.out _ hS.1) ?_
          rintro e v3 ⟨lB, kaB, kcB, ksB, gB, iaB, icB, isB, rfl, HB⟩
          have B3 := hid HB.out.2.2
          have hS2 : (fun W : World => Adds w W ∧ (W.heap[N6]? = some (.cells #[.bool xl, .slice xka xks.length xkc, .slice xg.a xg.l.length xg.cap, .slice xia xis.length xic] 26 (0, 0)) ∧ W.heap[N7]? = some (.cells #[.bool yl, .slice yka yks.length ykc, .slice yg.a yg.l.length yg.cap, .slice yia yis.length yic] 26 (0, 0)))) v3 := ⟨hS.1.trans B3.out, box_adds hS.2.1 B3.out, box_adds hS.2.2 B3.out⟩
          refine ⟨_, rfl, hS2, ?_⟩
          clear hS; have hS := hS2; clear hS2
          simp only [Act.put, List.setIfInBounds_toArray, List.set_cons_zero, List.set_cons_succ]
          refine Pe_all (rs := [4]) (by kernel_rfl) (by simp) (fun jj hj => ?_)
          obtain rfl := List.mem_singleton.1 hj
          have hB : Adds v3 (v3.alloc NZ) := (Touch.refl _ _).alloc _
          have hS2 : (fun W : World => Adds w W ∧ (W.heap[N6]? = some (.cells #[.bool xl, .slice xka xks.length xkc, .slice xg.a xg.l.length xg.cap, .slice xia xis.length xic] 26 (0, 0)) ∧ W.heap[N7]? = some (.cells #[.bool yl, .slice yka yks.length ykc, .slice yg.a yg.l.length yg.cap, .slice yia yis.length yic] 26 (0, 0)))) (v3.alloc NZ) := ⟨hS.1.trans hB, box_adds hS.2.1 hB, box_adds hS.2.2 hB⟩
          refine EO_value 13 (v := .pointer (some ⟨v3.heap.size, 0, none⟩)) (w' := v3.alloc NZ) rfl rfl (by rfl) (by go_simp) hS2 ?_
          obtain ⟨N13, hN13⟩ : ∃ N, N = v3.heap.size := ⟨_, rfl⟩
          obtain ⟨v4, hv4⟩ : ∃ W, W = v3.alloc NZ := ⟨_, rfl⟩
          have ZN13 := hid (show v4.heap[N13]? = some NZ ∧ N13 = v3.heap.size by rw [hv4, hN13]; exact ⟨heap_alloc_new _ _, rfl⟩)
          rw [← hv4] at hB hS2
          rw [← hv4, ← hN13]
          have B4 := hid hB
          clear hB hv4 hN13
          clear hS; have hS := hS2; clear hS2
          simp only [Act.put, List.setIfInBounds_toArray, List.set_cons_zero, List.set_cons_succ]
          have hne : N13 ≠ N14 := by
            have q1 := (Array.getElem?_eq_some_iff.1 (box_adds (box_adds ZN14.out.1 B2.out) B3.out)).1
            have q2 := ZN13.out.2
            omega
          have HE := hid (copy_end (zx := ⟨lA, kaA, kcA, ksA, gA, iaA, icA, isA⟩) (zy := ⟨lB, kaB, kcB, ksB, gB, iaB, icB, isB⟩) ((HA.out.2.1.adds (B3.out.trans B4.out)).lower (A3.out.trans ((adds_dr w3).trans B1.out)).size) ((HB.out.2.1.adds B4.out).lower (A3.out.trans (((adds_dr w3).trans B1.out).trans B2.out)).size) ZN13.out.1 (box_adds ZN14.out.1 (B2.out.trans (B3.out.trans B4.out))) hne hS.1 (by rw [ZN13.out.2]; exact (A3.out.trans ((((adds_dr w3).trans B1.out).trans B2.out).trans B3.out)).size) (by rw [ZN14.out.2]; exact (A3.out.trans (adds_dr w3)).size) #[.bool lA, .slice kaA ksA.length kcA, .slice gA.a gA.l.length gA.cap, .slice iaA isA.length icA] #[.bool lB, .slice kaB ksB.length kcB, .slice gB.a gB.l.length gB.cap, .slice iaB isB.length icB])
          have K13 := hid ZN13.out.1
          have HL13 := hid (show w.heap.size ≤ N13 ∧ w.heap.size ≤ N14 by rw [ZN13.out.2, ZN14.out.2]; exact ⟨(A3.out.trans ((((adds_dr w3).trans B1.out).trans B2.out).trans B3.out)).size, (A3.out.trans (adds_dr w3)).size⟩)
          have hx13 : N6 ≠ N13 ∧ N7 ≠ N13 ∧ N6 ≠ N14 ∧ N7 ≠ N14 := by
            have q1 := (Array.getElem?_eq_some_iff.1 X3.out).1
            have q2 := (Array.getElem?_eq_some_iff.1 Y3.out).1
            have q3 := Nat.le_trans (Nat.le_refl _) ((((adds_dr w3).trans B1.out).trans B2.out).trans B3.out).size
            have q4 := Nat.le_trans (Nat.le_refl _) (adds_dr w3).size
            rw [← ZN13.out.2] at q3
            rw [← ZN14.out.2] at q4
            omega
          refine Pe_do (i := 6) none (by kernel_rfl) rfl rfl rfl (fun K' hK => ?_)
          refine Go.wp_store_row 28 _ _ rfl N13 #[.bool lA, .slice kaA ksA.length kcA, .slice gA.a gA.l.length gA.cap, .slice iaA isA.length icA] rfl rfl 28 _ K13.out (info4 _ _ _ _) rfl (one4 _ _ _ _ _ _ _ _ _ _) ?_
          have hS2 : (fun W : World => Adds w W ∧ (W.heap[N6]? = some (.cells #[.bool xl, .slice xka xks.length xkc, .slice xg.a xg.l.length xg.cap, .slice xia xis.length xic] 26 (0, 0)) ∧ W.heap[N7]? = some (.cells #[.bool yl, .slice yka yks.length ykc, .slice yg.a yg.l.length yg.cap, .slice yia yis.length yic] 26 (0, 0)))) (v4.setRow N13 #[.bool lA, .slice kaA ksA.length kcA, .slice gA.a gA.l.length gA.cap, .slice iaA isA.length icA]) := ⟨(st_keep (And.intro hS.1 hS.2.1) hx13.1 HL13.out.1).1, (st_keep (And.intro hS.1 hS.2.1) hx13.1 HL13.out.1).2, (st_keep (And.intro hS.1 hS.2.2) hx13.2.1 HL13.out.1).2⟩
          refine hK _ _ (fun _ => hS2) ?_
          simp only [Act.put]
          clear hS hK; have hS := hS2; clear hS2
          refine Pe_do (i := 7) none (by kernel_rfl) rfl rfl rfl (fun K' hK => ?_)
          refine Go.wp_store_row 28 _ _ rfl N14 #[.bool lB, .slice kaB ksB.length kcB, .slice gB.a gB.l.length gB.cap, .slice iaB isB.length icB] rfl rfl 28 _ HE.out.2.2.2.2.2 (info4 _ _ _ _) rfl (one4 _ _ _ _ _ _ _ _ _ _) ?_
          have hS2 : (fun W : World => Adds w W ∧ (W.heap[N6]? = some (.cells #[.bool xl, .slice xka xks.length xkc, .slice xg.a xg.l.length xg.cap, .slice xia xis.length xic] 26 (0, 0)) ∧ W.heap[N7]? = some (.cells #[.bool yl, .slice yka yks.length ykc, .slice yg.a yg.l.length yg.cap, .slice yia yis.length yic] 26 (0, 0)))) ((v4.setRow N13 #[.bool lA, .slice kaA ksA.length kcA, .slice gA.a gA.l.length gA.cap, .slice iaA isA.length icA]).setRow N14 #[.bool lB, .slice kaB ksB.length kcB, .slice gB.a gB.l.length gB.cap, .slice iaB isB.length icB]) := ⟨(st_keep (And.intro hS.1 hS.2.1) hx13.2.2.1 HL13.out.2).1, (st_keep (And.intro hS.1 hS.2.1) hx13.2.2.1 HL13.out.2).2, (st_keep (And.intro hS.1 hS.2.2) hx13.2.2.2 HL13.out.2).2⟩
          refine hK _ _ (fun _ => hS2) ?_
          simp only [Act.put]
          clear hS hK; have hS := hid hS2; clear hS2 hx13 hne
          refine Pe_done (by kernel_rfl) ?_ _
          go_wp2
          go_meet
          case rel => exact ⟨N13, N14, lA, kaA, kcA, ksA, gA, iaA, icA, isA, lB, kaB, kcB, ksB, gB, iaB, icB, isB, rfl, rfl, ⟨HA.out.1, HB.out.1⟩, ⟨HE.out.1, HE.out.2.1⟩, ⟨HE.out.2.2.1, HE.out.2.2.2.1⟩, hS.out.2, hS.out.1⟩
        · have hB : Adds v2 (v2.alloc NZ) := (Touch.refl _ _).alloc _
          have hS2 : (fun W : World => Adds w W ∧ (W.heap[N6]? = some (.cells #[.bool xl, .slice xka xks.length xkc, .slice xg.a xg.l.length xg.cap, .slice xia xis.length xic] 26 (0, 0)) ∧ W.heap[N7]? = some (.cells #[.bool yl, .slice yka yks.length ykc, .slice yg.a yg.l.length yg.cap, .slice yia yis.length yic] 26 (0, 0)))) (v2.alloc NZ) := ⟨hS.1.trans hB, box_adds hS.2.1 hB, box_adds hS.2.2 hB⟩
          refine EO_value 13 (v := .pointer (some ⟨v2.heap.size, 0, none⟩)) (w' := v2.alloc NZ) rfl rfl (by rfl) (by go_simp) hS2 ?_
          obtain ⟨N13, hN13⟩ : ∃ N, N = v2.heap.size := ⟨_, rfl⟩
          obtain ⟨v3, hv3⟩ : ∃ W, W = v2.alloc NZ := ⟨_, rfl⟩
          have ZN13 := hid (show v3.heap[N13]? = some NZ ∧ N13 = v2.heap.size by rw [hv3, hN13]; exact ⟨heap_alloc_new _ _, rfl⟩)
          rw [← hv3] at hB hS2
          rw [← hv3, ← hN13]
          have B3 := hid hB
          clear hB hv3 hN13
          clear hS; have hS := hS2; clear hS2
          simp only [Act.put, List.setIfInBounds_toArray, List.set_cons_zero, List.set_cons_succ]
          refine Pe_all (rs := [3]) (by kernel_rfl) (by simp) (fun jj hj => ?_)
          obtain rfl := List.mem_singleton.1 hj
          refine EO_call 40 10 #[.agg #[.bool yl, .slice yka yks.length ykc, .slice yg.a yg.l.length yg.cap, .slice yia yis.length yic]] rfl rfl (by rfl) (by go_simp) (HC2.out _ hS.1) ?_
          rintro e v4 ⟨lB, kaB, kcB, ksB, gB, iaB, icB, isB, rfl, HB⟩
          have B4 := hid HB.out.2.2
          have hS2 : (fun W : World => Adds w W ∧ (W.heap[N6]? = some (.cells #[.bool xl, .slice xka xks.length xkc, .slice xg.a xg.l.length xg.cap, .slice xia xis.length xic] 26 (0, 0)) ∧ W.heap[N7]? = some (.cells #[.bool yl, .slice yka yks.length ykc, .slice yg.a yg.l.length yg.cap, .slice yia yis.length yic] 26 (0, 0)))) v4 := ⟨hS.1.trans B4.out, box_adds hS.2.1 B4.out, box_adds hS.2.2 B4.out⟩
          refine ⟨_, rfl, hS2, ?_⟩
          clear hS; have hS := hS2; clear hS2
          simp only [Act.put, List.setIfInBounds_toArray, List.set_cons_zero, List.set_cons_succ]
          have hne : N13 ≠ N14 := by
            have q1 := (Array.getElem?_eq_some_iff.1 (box_adds ZN14.out.1 B2.out)).1
            have q2 := ZN13.out.2
            omega
          have HE := hid (copy_end (zx := ⟨lA, kaA, kcA, ksA, gA, iaA, icA, isA⟩) (zy := ⟨lB, kaB, kcB, ksB, gB, iaB, icB, isB⟩) ((HA.out.2.1.adds (B3.out.trans B4.out)).lower (A3.out.trans ((adds_dr w3).trans B1.out)).size) (HB.out.2.1.lower (A3.out.trans ((((adds_dr w3).trans B1.out).trans B2.out).trans B3.out)).size) (box_adds ZN13.out.1 B4.out) (box_adds ZN14.out.1 (B2.out.trans (B3.out.trans B4.out))) hne hS.1 (by rw [ZN13.out.2]; exact (A3.out.trans (((adds_dr w3).trans B1.out).trans B2.out)).size) (by rw [ZN14.out.2]; exact (A3.out.trans (adds_dr w3)).size) #[.bool lA, .slice kaA ksA.length kcA, .slice gA.a gA.l.length gA.cap, .slice iaA isA.length icA] #[.bool lB, .slice kaB ksB.length kcB, .slice gB.a gB.l.length gB.cap, .slice iaB isB.length icB])
          have K13 := hid (box_adds ZN13.out.1 B4.out)
          have HL13 := hid (show w.heap.size ≤ N13 ∧ w.heap.size ≤ N14 by rw [ZN13.out.2, ZN14.out.2]; exact ⟨(A3.out.trans (((adds_dr w3).trans B1.out).trans B2.out)).size, (A3.out.trans (adds_dr w3)).size⟩)
          have hx13 : N6 ≠ N13 ∧ N7 ≠ N13 ∧ N6 ≠ N14 ∧ N7 ≠ N14 := by
            have q1 := (Array.getElem?_eq_some_iff.1 X3.out).1
            have q2 := (Array.getElem?_eq_some_iff.1 Y3.out).1
            have q3 := Nat.le_trans (Nat.le_refl _) (((adds_dr w3).trans B1.out).trans B2.out).size
            have q4 := Nat.le_trans (Nat.le_refl _) (adds_dr w3).size
            rw [← ZN13.out.2] at q3
            rw [← ZN14.out.2] at q4
            omega
          refine Pe_do (i := 6) none (by kernel_rfl) rfl rfl rfl (fun K' hK => ?_)
          refine Go.wp_store_row 28 _ _ rfl N13 #[.bool lA, .slice kaA ksA.length kcA, .slice gA.a gA.l.length gA.cap, .slice iaA isA.length icA] rfl rfl 28 _ K13.out (info4 _ _ _ _) rfl (one4 _ _ _ _ _ _ _ _ _ _) ?_
          have hS2 : (fun W : World => Adds w W ∧ (W.heap[N6]? = some (.cells #[.bool xl, .slice xka xks.length xkc, .slice xg.a xg.l.length xg.cap, .slice xia xis.length xic] 26 (0, 0)) ∧ W.heap[N7]? = some (.cells #[.bool yl, .slice yka yks.length ykc, .slice yg.a yg.l.length yg.cap, .slice yia yis.length yic] 26 (0, 0)))) (v4.setRow N13 #[.bool lA, .slice kaA ksA.length kcA, .slice gA.a gA.l.length gA.cap, .slice iaA isA.length icA]) := ⟨(st_keep (And.intro hS.1 hS.2.1) hx13.1 HL13.out.1).1, (st_keep (And.intro hS.1 hS.2.1) hx13.1 HL13.out.1).2, (st_keep (And.intro hS.1 hS.2.2) hx13.2.1 HL13.out.1).2⟩
          refine hK _ _ (fun _ => hS2) ?_
          simp only [Act.put]
          clear hS hK; have hS := hS2; clear hS2
          refine Pe_do (i := 7) none (by kernel_rfl) rfl rfl rfl (fun K' hK => ?_)
          refine Go.wp_store_row 28 _ _ rfl N14 #[.bool lB, .slice kaB ksB.length kcB, .slice gB.a gB.l.length gB.cap, .slice iaB isB.length icB] rfl rfl 28 _ HE.out.2.2.2.2.2 (info4 _ _ _ _) rfl (one4 _ _ _ _ _ _ _ _ _ _) ?_
          have hS2 : (fun W : World => Adds w W ∧ (W.heap[N6]? = some (.cells #[.bool xl, .slice xka xks.length xkc, .slice xg.a xg.l.length xg.cap, .slice xia xis.length xic] 26 (0, 0)) ∧ W.heap[N7]? = some (.cells #[.bool yl, .slice yka yks.length ykc, .slice yg.a yg.l.length yg.cap, .slice yia yis.length yic] 26 (0, 0)))) ((v4.setRow N13 #[.bool lA, .slice kaA ksA.length kcA, .slice gA.a gA.l.length gA.cap, .slice iaA isA.length icA]).setRow N14 #[.bool lB, .slice kaB ksB.length kcB, .slice gB.a gB.l.length gB.cap, .slice iaB isB.length icB]) := ⟨(st_keep (And.intro hS.1 hS.2.1) hx13.2.2.1 HL13.out.2).1, (st_keep (And.intro hS.1 hS.2.1) hx13.2.2.1 HL13.out.2).2, (st_keep (And.intro hS.1 hS.2.2) hx13.2.2.2 HL13.out.2).2⟩
          refine hK _ _ (fun _ => hS2) ?_
          simp only [Act.put]
          clear hS hK; have hS := hid hS2; clear hS2 hx13 hne
          refine Pe_done (by kernel_rfl) ?_ _
          go_wp2
          go_meet
          case rel => exact ⟨N13, N14, lA, kaA, kcA, ksA, gA, iaA, icA, isA, lB, kaB, kcB, ksB, gB, iaB, icB, isB, rfl, rfl, ⟨HA.out.1, HB.out.1⟩, ⟨HE.out.1, HE.out.2.1⟩, ⟨HE.out.2.2.1, HE.out.2.2.2.1⟩, hS.out.2, hS.out.1⟩
      · have hB : Adds v1 (v1.alloc NZ) := (Touch.refl _ _).alloc _
        have hS2 : (fun W : World => Adds w W ∧ (W.heap[N6]? = some (.cells #[.bool xl, .slice xka xks.length xkc, .slice xg.a xg.l.length xg.cap, .slice xia xis.length xic] 26 (0, 0)) ∧ W.heap[N7]? = some (.cells #[.bool yl, .slice yka yks.length ykc, .slice yg.a yg.l.length yg.cap, .slice yia yis.length yic] 26 (0, 0)))) (v1.alloc NZ) := ⟨hS.1.trans hB, box_adds hS.2.1 hB, box_adds hS.2.2 hB⟩
        refine EO_value 13 (v := .pointer (some ⟨v1.heap.size, 0, none⟩)) (w' := v1.alloc NZ) rfl rfl (by rfl) (by go_simp) hS2 ?_
        obtain ⟨N13, hN13⟩ : ∃ N, N = v1.heap.size := ⟨_, rfl⟩
        obtain ⟨v2, hv2⟩ : ∃ W, W = v1.alloc NZ := ⟨_, rfl⟩
        have ZN13 := hid (show v2.heap[N13]? = some NZ ∧ N13 = v1.heap.size by rw [hv2, hN13]; exact ⟨heap_alloc_new _ _, rfl⟩)
        rw [← hv2] at hB hS2
        rw [← hv2, ← hN13]
        have B2 := hid hB
        clear hB hv2 hN13
        clear hS; have hS := hS2; clear hS2
        simp only [Act.put, List.setIfInBounds_toArray, List.set_cons_zero, List.set_cons_succ]
        refine Pe_all (rs := [1]) (by kernel_rfl) (by simp) (fun jj hj => ?_)
        obtain rfl := List.mem_singleton.1 hj
        refine EO_call 38 10 #[.agg #[.bool xl, .slice xka xks.length xkc, .slice xg.a xg.l.length xg.cap, .slice xia xis.length xic]] rfl rfl (by rfl) (by go_simp) (HC.out _ hS.1) ?_
        rintro e v3 ⟨lA, kaA, kcA, ksA, gA, iaA, icA, isA, rfl, HA⟩
        have B3 := hid HA.out.2.2
        have hS2 : (fun W : World => Adds w W ∧ (W.heap[N6]? = some (.cells #[.bool xl, .slice xka xks.length xkc, .slice xg.a xg.l.length xg.cap, .slice xia xis.length xic] 26 (0, 0)) ∧ W.heap[N7]? = some (.cells #[.bool yl, .slice yka yks.length ykc, .slice yg.a yg.l.length yg.cap, .slice yia yis.length yic] 26 (0, 0)))) v3 := ⟨hS.1.trans B3.out, box_adds hS.2.1 B3.out, box_adds hS.2.2 B3.out⟩
        refine ⟨_, rfl, hS2, ?_⟩
        clear hS; have hS := hS2; clear hS2
        simp only [Act.put, List.setIfInBounds_toArray, List.set_cons_zero, List.set_cons_succ]
        refine Pe_all (rs := [3]) (by kernel_rfl) (by simp) (fun jj hj => ?_)
        obtain rfl := List.mem_singleton.1 hj
        refine EO_call 40 10 #[.agg #[.bool yl, .slice yka yks.length ykc, .slice yg.a yg.l.length yg.cap, .slice yia yis.length yic]] rfl rfl (by rfl) (by go_simp) (HC2.out _ hS.1) ?_
        rintro e v4 ⟨lB, kaB, kcB, ksB, gB, iaB, icB, isB, rfl, HB⟩
        have B4 := hid HB.out.2.2
        have hS2 : (fun W : World => Adds w W ∧ (W.heap[N6]? = some (.cells #[.bool xl, .slice xka xks.length xkc, .slice xg.a xg.l.length xg.cap, .slice xia xis.length xic] 26 (0, 0)) ∧ W.heap[N7]? = some (.cells #[.bool yl, .slice yka yks.length ykc, .slice yg.a yg.l.length yg.cap, .slice yia yis.length yic] 26 (0, 0)))) v4 := ⟨hS.1.trans B4.out, box_adds hS.2.1 B4.out, box_adds hS.2.2 B4.out⟩
        refine ⟨_, rfl, hS2, ?_⟩
        clear hS; have hS := hS2; clear hS2
        simp only [Act.put, List.setIfInBounds_toArray, List.set_cons_zero, List.set_cons_succ]
        have hne : N13 ≠ N14 := by
          have q1 := (Array.getElem?_eq_some_iff.1 ZN14.out.1).1
          have q2 := ZN13.out.2
          omega
        have HE := hid (copy_end (zx := ⟨lA, kaA, kcA, ksA, gA, iaA, icA, isA⟩) (zy := ⟨lB, kaB, kcB, ksB, gB, iaB, icB, isB⟩) ((HA.out.2.1.adds B4.out).lower (A3.out.trans (((adds_dr w3).trans B1.out).trans B2.out)).size) (HB.out.2.1.lower (A3.out.trans ((((adds_dr w3).trans B1.out).trans B2.out).trans B3.out)).size) (box_adds ZN13.out.1 (B3.out.trans B4.out)) (box_adds ZN14.out.1 (B2.out.trans (B3.out.trans B4.out))) hne hS.1 (by rw [ZN13.out.2]; exact (A3.out.trans ((adds_dr w3).trans B1.out)).size) (by rw [ZN14.out.2]; exact (A3.out.trans (adds_dr w3)).size) #[.bool lA, .slice kaA ksA.length kcA, .slice gA.a gA.l.length gA.cap, .slice iaA isA.length icA] #[.bool lB, .slice kaB ksB.length kcB, .slice gB.a gB.l.length gB.cap, .slice iaB isB.length icB])
        have K13 := hid (box_adds ZN13.out.1 (B3.out.trans B4.out))
        have HL13 := hid (show w.heap.size ≤ N13 ∧ w.heap.size ≤ N14 by rw [ZN13.out.2, ZN14.out.2]; exact ⟨(A3.out.trans ((adds_dr w3).trans B1.out)).size, (A3.out.trans (adds_dr w3)).size⟩)
        have hx13 : N6 ≠ N13 ∧ N7 ≠ N13 ∧ N6 ≠ N14 ∧ N7 ≠ N14 := by
          have q1 := (Array.getElem?_eq_some_iff.1 X3.out).1
          have q2 := (Array.getElem?_eq_some_iff.1 Y3.out).1
          have q3 := Nat.le_trans (Nat.le_refl _) ((adds_dr w3).trans B1.out).size
          have q4 := Nat.le_trans (Nat.le_refl _) (adds_dr w3).size
          rw [← ZN13.out.2] at q3
          rw [← ZN14.out.2] at q4
          omega
        refine Pe_do (i := 6) none (by kernel_rfl) rfl rfl rfl (fun K' hK => ?_)
        refine Go.wp_store_row 28 _ _ rfl N13 #[.bool lA, .slice kaA ksA.length kcA, .slice gA.a gA.l.length gA.cap, .slice iaA isA.length icA] rfl rfl 28 _ K13.out (info4 _ _ _ _) rfl (one4 _ _ _ _ _ _ _ _ _ _) ?_
        have hS2 : (fun W : World => Adds w W ∧ (W.heap[N6]? = some (.cells #[.bool xl, .slice xka xks.length xkc, .slice xg.a xg.l.length xg.cap, .slice xia xis.length xic] 26 (0, 0)) ∧ W.heap[N7]? = some (.cells #[.bool yl, .slice yka yks.length ykc, .slice yg.a yg.l.length yg.cap, .slice yia yis.length yic] 26 (0, 0)))) (v4.setRow N13 #[.bool lA, .slice kaA ksA.length kcA, .slice gA.a gA.l.length gA.cap, .slice iaA isA.length icA]) := ⟨(st_keep (And.intro hS.1 hS.2.1) hx13.1 HL13.out.1).1, (st_keep (And.intro hS.1 hS.2.1) hx13.1 HL13.out.1).2, (st_keep (And.intro hS.1 hS.2.2) hx13.2.1 HL13.out.1).2⟩
        refine hK _ _ (fun _ => hS2) ?_
        simp only [Act.put]
        clear hS hK; have hS := hS2; clear hS2
        refine Pe_do (i := 7) none (by kernel_rfl) rfl rfl rfl (fun K' hK => ?_)
        refine Go.wp_store_row 28 _ _ rfl N14 #[.bool lB, .slice kaB ksB.length kcB, .slice gB.a gB.l.length gB.cap, .slice iaB isB.length icB] rfl rfl 28 _ HE.out.2.2.2.2.2 (info4 _ _ _ _) rfl (one4 _ _ _ _ _ _ _ _ _ _) ?_
        have hS2 : (fun W : World => Adds w W ∧ (W.heap[N6]? = some (.cells #[.bool xl, .slice xka xks.length xkc, .slice xg.a xg.l.length xg.cap, .slice xia xis.length xic] 26 (0, 0)) ∧ W.heap[N7]? = some (.cells #[.bool yl, .slice yka yks.length ykc, .slice yg.a yg.l.length yg.cap, .slice yia yis.length yic] 26 (0, 0)))) ((v4.setRow N13 #[.bool lA, .slice kaA ksA.length kcA, .slice gA.a gA.l.length gA.cap, .slice iaA isA.length icA]).setRow N14 #[.bool lB, .slice kaB ksB.length kcB, .slice gB.a gB.l.length gB.cap, .slice iaB isB.length icB]) := ⟨(st_keep (And.intro hS.1 hS.2.1) hx13.2.2.1 HL13.out.2).1, (st_keep (And.intro hS.1 hS.2.1) hx13.2.2.1 HL13.out.2).2, (st_keep (And.intro hS.1 hS.2.2) hx13.2.2.2 HL13.out.2).2⟩
        refine hK _ _ (fun _ => hS2) ?_
        simp only [Act.put]
        clear hS hK; have hS := hid hS2; clear hS2 hx13 hne
        refine Pe_done (by kernel_rfl) ?_ _
        go_wp2
        go_meet
        case rel => exact ⟨N13, N14, lA, kaA, kcA, ksA, gA, iaA, icA, isA, lB, kaB, kcB, ksB, gB, iaB, icB, isB, rfl, rfl, ⟨HA.out.1, HB.out.1⟩, ⟨HE.out.1, HE.out.2.1⟩, ⟨HE.out.2.2.1, HE.out.2.2.2.1⟩, hS.out.2, hS.out.1⟩
  case rest =>
    obtain ⟨N13, N14, lA, kaA, kcA, ksA, gA, iaA, icA, isA, lB, kaB, kcB, ksB, gB, iaB, icB, isB, rfl, rfl, HI⟩ := hcut
    have LB := hid (fun (W : World) (L : Late wc W) => show (W.heap[N13]? = some (.cells #[.bool lA, .slice kaA ksA.length kcA, .slice gA.a gA.l.length gA.cap, .slice iaA isA.length icA] 28 (0, 0)) ∧ W.heap[N14]? = some (.cells #[.bool lB, .slice kaB ksB.length kcB, .slice gB.a gB.l.length gB.cap, .slice iaB isB.length icB] 28 (0, 0))) ∧ (W.heap[N6]? = some (.cells #[.bool xl, .slice xka xks.length xkc, .slice xg.a xg.l.length xg.cap, .slice xia xis.length xic] 26 (0, 0)) ∧ W.heap[N7]? = some (.cells #[.bool yl, .slice yka yks.length ykc, .slice yg.a yg.l.length yg.cap, .slice yia yis.length yic] 26 (0, 0))) from ⟨⟨L.box HI.out.2.2.1.1, L.box HI.out.2.2.1.2⟩, L.box HI.out.2.2.2.1.1, L.box HI.out.2.2.2.1.2⟩)
    have LO := hid (fun (W : World) (L : Late wc W) => show NOwn W w.heap.size ⟨lA, kaA, kcA, ksA, gA, iaA, icA, isA⟩ ∧ NOwn W w.heap.size ⟨lB, kaB, kcB, ksB, gB, iaB, icB, isB⟩ from ⟨L.own HI.out.2.1.1, L.own HI.out.2.1.2⟩)
    have AI := hid HI.out.2.2.2.2
    have LX := hid (fun (W : World) (L : Late wc W) => show NQ W (fun k => k < wc.heap.size) ⟨xl, xka, xkc, xks, xg, xia, xic, xis⟩ ∧ NQ W (fun k => k < wc.heap.size) ⟨yl, yka, ykc, yks, yg, yia, yic, yis⟩ from ⟨L.nq ((HQ.out.adds AI.out).mono (fun k hk _ => hk)), L.nq ((HQ2.out.adds AI.out).mono (fun k hk _ => hk))⟩)
    have LV := hid (fun (W : World) (L : Late wc W) => show PQ W (fun k => k < wc.heap.size) ⟨va, val, vc⟩ from L.pq ((HVa.out.adds AI.out).mono (fun k hk _ => hk)))
    have EA := hid HI.out.1.1
    have EB := hid HI.out.1.2
    have BA := hid (show N.Bd 900 (⟨lA, kaA, kcA, ksA, gA, iaA, icA, isA⟩ : NM).nd by rw [EA.out]; exact HB2.out.mono (by decide))
    have BA4 := hid (show N.Bd 400 (⟨lA, kaA, kcA, ksA, gA, iaA, icA, isA⟩ : NM).nd by rw [EA.out]; exact HB2.out.mono (by decide))
    have BB4 := hid (show N.Bd 400 (⟨lB, kaB, kcB, ksB, gB, iaB, icB, isB⟩ : NM).nd by rw [EB.out]; exact HB3.out.mono (by decide))
    have BX := hid (show N.Bd 400 (⟨xl, xka, xkc, xks, xg, xia, xic, xis⟩ : NM).nd by rw [← HN.out]; exact HB2.out.mono (by decide))
    have BY := hid (show N.Bd 400 (⟨yl, yka, ykc, yks, yg, yia, yic, yis⟩ : NM).nd by rw [← HM.out]; exact HB3.out.mono (by decide))
    obtain ⟨n1, hn1⟩ : ∃ q, q = (N.insert n i key val kid).1 := ⟨_, rfl⟩
    obtain ⟨e1, he1⟩ : ∃ q, q = (N.insert n i key val kid).2 := ⟨_, rfl⟩
    obtain ⟨n2, hn2⟩ : ∃ q, q = (N.remove n i).1 := ⟨_, rfl⟩
    obtain ⟨e2, he2⟩ : ∃ q, q = (N.remove n i).2 := ⟨_, rfl⟩
    obtain ⟨n3, hn3⟩ : ∃ q, q = N.cutA n := ⟨_, rfl⟩
    obtain ⟨n4, hn4⟩ : ∃ q, q = N.cutB n := ⟨_, rfl⟩
    obtain ⟨e3, he3⟩ : ∃ q, q = N.cutE n := ⟨_, rfl⟩
    obtain ⟨n5, hn5⟩ : ∃ q, q = (N.join n key m).1 := ⟨_, rfl⟩
    obtain ⟨e5, he5⟩ : ∃ q, q = (N.join n key m).2 := ⟨_, rfl⟩
    have HBs := hid (show (N.Bd 900 n1 ∧ N.Bd 900 n2) ∧ (N.Bd 900 n3 ∧ N.Bd 900 n4) ∧ N.Bd 900 n5 by
      rw [hn1, hn2, hn3, hn4, hn5]
      exact ⟨⟨insert_bd HB2.out HKl.out (by rw [← HVn.out]; exact HVl.out), remove_bd HB2.out⟩, cut_bd HB2.out, join_bd HB2.out HB3.out HKl.out⟩)
    have HIns := hid (fun (W : World) (L : Late wc W) => show Calls Try.prog 25 #[.agg #[.bool lA, .slice kaA ksA.length kcA, .slice gA.a gA.l.length gA.cap, .slice iaA isA.length icA], .int .i64 i, .string ⟨key.toArray⟩, .slice va vn vc, .int .i64 kid] W (PTnd W n1 (e1 : Int)) from
      PTnode.nd (ninsert_any ⟨lA, kaA, kcA, ksA, gA, iaA, icA, isA⟩ i key va val vn vc kid W (LO.out W L).1.nq BA.out HVn.out (LV.out W L) HKl.out HVl.out) (by rw [EA.out, hn1, he1]))
    have HRm := hid (fun (W : World) (L : Late wc W) => show Calls Try.prog 27 #[.agg #[.bool lA, .slice kaA ksA.length kcA, .slice gA.a gA.l.length gA.cap, .slice iaA isA.length icA], .int .i64 i] W (PTnd W n2 (e2 : Int)) from
      PTnode.nd (nremove_any ⟨lA, kaA, kcA, ksA, gA, iaA, icA, isA⟩ i W (LO.out W L).1.nq BA.out) (by rw [EA.out, hn2, he2]))
    have HCt := hid (fun (W : World) (L : Late wc W) => show Calls Try.prog 29 #[.agg #[.bool lA, .slice kaA ksA.length kcA, .slice gA.a gA.l.length gA.cap, .slice iaA isA.length icA]] W (PCq W n3 n4 (e3 : Int)) by
      have q := PCutN.q (ncut_any ⟨lA, kaA, kcA, ksA, gA, iaA, icA, isA⟩ W (LO.out W L).1.nq BA.out)
      rw [EA.out, ← hn3, ← hn4, ← he3] at q; exact q)
    have HJn := hid (fun (W : World) (L : Late wc W) => show Calls Try.prog 31 #[.agg #[.bool lA, .slice kaA ksA.length kcA, .slice gA.a gA.l.length gA.cap, .slice iaA isA.length icA], .string ⟨key.toArray⟩, .agg #[.bool lB, .slice kaB ksB.length kcB, .slice gB.a gB.l.length gB.cap, .slice iaB isB.length icB]] W (PTnd W n5 (e5 : Int)) from
      PTnode.nd (njoin_any ⟨lA, kaA, kcA, ksA, gA, iaA, icA, isA⟩ ⟨lB, kaB, kcB, ksB, gB, iaB, icB, isB⟩ key W (LO.out W L).1.nq (LO.out W L).2.nq BA4.out BB4.out HKl.out) (by rw [EA.out, EB.out, hn5, he5]))
    have HRIns := hid (fun (W : World) (L : Late wc W) => show Calls Try.prog 26 #[.agg #[.bool xl, .slice xka xks.length xkc, .slice xg.a xg.l.length xg.cap, .slice xia xis.length xic], .int .i64 i, .string ⟨key.toArray⟩, .slice va vn vc, .int .i64 kid] W (PQTd W (fun k => k < wc.heap.size ∨ W.heap.size ≤ k) n1 (e1 : Int)) from
      PQTd.mono (PQT.nd (rinsert_any ⟨xl, xka, xkc, xks, xg, xia, xic, xis⟩ i key va val vn vc kid W (LX.out W L).1 (BX.out.mono (by decide)) HVn.out (LV.out W L) HKl.out HVl.out) (by rw [← HN.out, hn1, he1])) (fun k hk => hk.elim (fun hk => .inl (hk.elim id id)) .inr))
    have HRRm := hid (fun (W : World) (L : Late wc W) => show Calls Try.prog 28 #[.agg #[.bool xl, .slice xka xks.length xkc, .slice xg.a xg.l.length xg.cap, .slice xia xis.length xic], .int .i64 i] W (PQTd W (fun k => k < wc.heap.size ∨ W.heap.size ≤ k) n2 (e2 : Int)) from
      PQT.nd (rremove_any ⟨xl, xka, xkc, xks, xg, xia, xic, xis⟩ i W (LX.out W L).1 (BX.out.mono (by decide))) (by rw [← HN.out, hn2, he2]))
    have HRCt := hid (fun (W : World) (L : Late wc W) => show Calls Try.prog 30 #[.agg #[.bool xl, .slice xka xks.length xkc, .slice xg.a xg.l.length xg.cap, .slice xia xis.length xic]] W (PRq W (fun k => k < wc.heap.size ∨ W.heap.size ≤ k) n3 n4 (e3 : Int)) by
      have q := PQCut.q (rcut_any ⟨xl, xka, xkc, xks, xg, xia, xic, xis⟩ W (LX.out W L).1 BX.out)
      rw [← HN.out, ← hn3, ← hn4, ← he3] at q; exact q)
    have HRJn := hid (fun (W : World) (L : Late wc W) => show Calls Try.prog 32 #[.agg #[.bool xl, .slice xka xks.length xkc, .slice xg.a xg.l.length xg.cap, .slice xia xis.length xic], .string ⟨key.toArray⟩, .agg #[.bool yl, .slice yka yks.length ykc, .slice yg.a yg.l.length yg.cap, .slice yia yis.length yic]] W (PQTd W (fun k => k < wc.heap.size ∨ W.heap.size ≤ k) n5 (e5 : Int)) from
      PQTd.mono (PQT.nd (rjoin_any ⟨xl, xka, xkc, xks, xg, xia, xic, xis⟩ ⟨yl, yka, ykc, yks, yg, yia, yic, yis⟩ key W (LX.out W L).1 (LX.out W L).2 BX.out BY.out HKl.out) (by rw [← HN.out, ← HM.out, hn5, he5])) (fun k hk => hk.elim (fun hk => .inl (hk.elim id id)) .inr))
    clear hn1 he1 hn2 he2 hn3 hn4 he3 hn5 he5
    go_upto_region 5 with (first
      | (refine wpList_load_row rfl 28 _ rfl N13 rfl 28 _ _ _ (LB.out wc (Late.refl wc)).1.1 Try.underlying28 rfl (info4 _ _ _ _) ?_)
      | (go_at_call 25; refine (HIns.out wc (Late.refl wc)).mono ?_; rintro e a1 ⟨lP, kaP, kcP, ksP, gP, iaP, icP, isP, rfl, G1⟩)
      | (refine wpList_store_row rfl 28 _ _ rfl a1.heap.size #[.bool lP, .slice kaP ksP.length kcP, .slice gP.a gP.l.length gP.cap, .slice iaP isP.length icP] rfl rfl 28 _ (heap_alloc_new a1 NZ) (info4 _ _ _ _) rfl (one4 _ _ _ _ _ _ _ _ _ _) ?_))
    obtain ⟨N15, hN15⟩ : ∃ N, N = a1.heap.size := ⟨_, rfl⟩
    obtain ⟨a2, ha2⟩ : ∃ W, W = (a1.alloc NZ).setRow N15 #[.bool lP, .slice kaP ksP.length kcP, .slice gP.a gP.l.length gP.cap, .slice iaP isP.length icP] := ⟨_, rfl⟩
    have K1 := hid (boxed G1.out hN15 ha2)
    have HN15 := hid (show wc.heap.size ≤ N15 by rw [hN15]; exact G1.out.2.2.size)
    rw [← hN15, ← ha2]
    clear hN15 ha2
    have L2 := hid ((Late.refl wc).adds K1.out.2.2)
    go_upto_region 6 with (first
      | (refine wpList_load_row rfl 26 _ rfl N6 rfl 26 _ _ _ (LB.out a2 L2.out).2.1 Try.underlying26 rfl (infoR4 _ _ _ _) ?_)
      | (go_at_call 26; refine (HRIns.out a2 L2.out).mono ?_; rintro e a3 ⟨lR, kaR, kcR, ksR, gR, iaR, icR, isR, rfl, G2⟩)
      | (refine wpList_store_row rfl 26 _ _ rfl a3.heap.size #[.bool lR, .slice kaR ksR.length kcR, .slice gR.a gR.l.length gR.cap, .slice iaR isR.length icR] rfl rfl 26 _ (heap_alloc_new a3 RZ) (infoR4 _ _ _ _) rfl (one4 _ _ _ _ _ _ _ _ _ _) ?_))
    obtain ⟨N17, hN17⟩ : ∃ N, N = a3.heap.size := ⟨_, rfl⟩
    obtain ⟨a4, ha4⟩ : ∃ W, W = (a3.alloc RZ).setRow N17 #[.bool lR, .slice kaR ksR.length kcR, .slice gR.a gR.l.length gR.cap, .slice iaR isR.length icR] := ⟨_, rfl⟩
    have K2 := hid (pboxed hN17 ha4)
    have HN17 := hid (show wc.heap.size ≤ N17 by rw [hN17]; exact Nat.le_trans L2.out.size G2.out.2.2.size)
    rw [← hN17, ← ha4]
    clear hN17 ha4
    have B24 := hid (G2.out.2.2.trans K2.out.2)
    have L4 := hid (L2.out.adds B24.out)
    have F15 := hid (box_adds K1.out.2.1 B24.out)
    have F17 := hid K2.out.1
    have O4 := hid (K1.out.1.adds B24.out)
    have S4 := hid (same_yes (z := ⟨lP, kaP, kcP, ksP, gP, iaP, icP, isP⟩) (zr := ⟨lR, kaR, kcR, ksR, gR, iaR, icR, isR⟩) G1.out.1 G2.out.1 O4.out.nq (G2.out.2.1.adds K2.out.2) HBs.out.1.1)
    have HNe := hid (types_ne F15.out F17.out)
    have hee : ((e1 : Int) != (e1 : Int)) = false := by simp
    go_upto_region 8 with (first
      | (refine wpList_load_row rfl 28 _ rfl N15 rfl 28 _ _ _ F15.out Try.underlying28 rfl (info4 _ _ _ _) ?_)
      | (refine wpList_load_row rfl 26 _ rfl N17 rfl 26 _ _ _ F17.out Try.underlying26 rfl (infoR4 _ _ _ _) ?_)
      | (go_at_call 20; refine S4.out.mono ?_; rintro e a5 ⟨rfl, hA5⟩; have D5 := hid hA5; clear hA5))
    clear hee S4
    have J15 := hid (box_adds F15.out D5.out)
    have J17 := hid (box_adds F17.out D5.out)
    have HSp := hid (show Calls Try.prog 24 #[.agg #[.bool lP, .slice kaP ksP.length kcP, .slice gP.a gP.l.length gP.cap, .slice iaP isP.length icP]] a5 (PSpoil a5 wc.heap.size ⟨lP, kaP, kcP, ksP, gP, iaP, icP, isP⟩) from spoil_any ⟨lP, kaP, kcP, ksP, gP, iaP, icP, isP⟩ a5 wc.heap.size (O4.out.adds D5.out) (nd_ns G1.out.1 HBs.out.1.1 (by decide)))
    go_upto_region 9 with (first
      | (refine wpList_load_row rfl 28 _ rfl N15 rfl 28 _ _ _ J15.out Try.underlying28 rfl (info4 _ _ _ _) ?_)
      | (go_at_call 24; refine HSp.out.mono ?_; rintro e a6 ⟨rfl, hT6, hK6⟩; have T6 := hid hT6; have C6 := hid hK6; clear hT6 hK6))
    have LSa := hid ((L4.out.adds D5.out).more (T6.out.mono (fun k _ c => c.1)) (Nat.le_refl _))
    have U15a := hid (C6.out N15 _ 28 J15.out (.inl rfl))
    have U17a := hid (C6.out N17 _ 26 J17.out (.inr rfl))
    clear F15 F17 J15 J17 T6 C6 HSp O4 D5 L4 G1
    clear HIns HRIns L2 K1 K2 G2 B24
    go_upto_region 10 with (first
      | (refine wpList_load_row rfl 28 _ rfl N13 rfl 28 _ _ _ (LB.out a6 LSa.out).1.1 Try.underlying28 rfl (info4 _ _ _ _) ?_)
      | (go_at_call 27; refine (HRm.out a6 LSa.out).mono ?_; rintro e b1 ⟨lP, kaP, kcP, ksP, gP, iaP, icP, isP, rfl, G1⟩)
      | (refine wpList_store_row rfl 28 _ _ rfl N15 #[.bool lP, .slice kaP ksP.length kcP, .slice gP.a gP.l.length gP.cap, .slice iaP isP.length icP] rfl rfl 28 _ (box_adds U15a.out G1.out.2.2) (info4 _ _ _ _) rfl (one4 _ _ _ _ _ _ _ _ _ _) ?_))
    obtain ⟨b2, h2⟩ : ∃ W, W = b1.setRow N15 #[.bool lP, .slice kaP ksP.length kcP, .slice gP.a gP.l.length gP.cap, .slice iaP isP.length icP] := ⟨_, rfl⟩
    have K1 := hid (show NOwn b2 a6.heap.size ⟨lP, kaP, kcP, ksP, gP, iaP, icP, isP⟩ ∧ b2.heap[N15]? = some (.cells #[.bool lP, .slice kaP ksP.length kcP, .slice gP.a gP.l.length gP.cap, .slice iaP isP.length icP] 28 (0, 0)) by rw [h2]; exact oput G1.out.2.1 (box_adds U15a.out G1.out.2.2))
    have L2 := hid (show Late wc b2 by rw [h2]; exact (LSa.out.adds G1.out.2.2).row HN15.out _)
    have V0 := set_other (N := N15) (cs := #[.bool lP, .slice kaP ksP.length kcP, .slice gP.a gP.l.length gP.cap, .slice iaP isP.length icP]) (box_adds U17a.out G1.out.2.2) (fun c => HNe.out c.symm)
    rw [← h2] at V0
    have V := hid V0
    clear V0
    rw [← h2]
    clear h2
    go_upto_region 11 with (first
      | (refine wpList_load_row rfl 26 _ rfl N6 rfl 26 _ _ _ (LB.out b2 L2.out).2.1 Try.underlying26 rfl (infoR4 _ _ _ _) ?_)
      | (go_at_call 28; refine (HRRm.out b2 L2.out).mono ?_; rintro e b3 ⟨lR, kaR, kcR, ksR, gR, iaR, icR, isR, rfl, G2⟩)
      | (refine wpList_store_row rfl 26 _ _ rfl N17 #[.bool lR, .slice kaR ksR.length kcR, .slice gR.a gR.l.length gR.cap, .slice iaR isR.length icR] rfl rfl 26 _ (box_adds V.out G2.out.2.2) (infoR4 _ _ _ _) rfl (one4 _ _ _ _ _ _ _ _ _ _) ?_))
    obtain ⟨b4, h4⟩ : ∃ W, W = b3.setRow N17 #[.bool lR, .slice kaR ksR.length kcR, .slice gR.a gR.l.length gR.cap, .slice iaR isR.length icR] := ⟨_, rfl⟩
    have K2 := hid (show NQ b4 (fun k => k < wc.heap.size ∨ b2.heap.size ≤ k) ⟨lR, kaR, kcR, ksR, gR, iaR, icR, isR⟩ ∧ b4.heap[N17]? = some (.cells #[.bool lR, .slice kaR ksR.length kcR, .slice gR.a gR.l.length gR.cap, .slice iaR isR.length icR] 26 (0, 0)) by
      rw [h4]
      refine rput G2.out (box_adds V.out G2.out.2.2) (fun k hk c => ?_)
      have q1 := HN17.out
      have q2 := (Array.getElem?_eq_some_iff.1 V.out).1
      omega)
    have L4 := hid (show Late wc b4 by rw [h4]; exact (L2.out.adds G2.out.2.2).row HN17.out _)
    have F15 := hid (show b4.heap[N15]? = some (.cells #[.bool lP, .slice kaP ksP.length kcP, .slice gP.a gP.l.length gP.cap, .slice iaP isP.length icP] 28 (0, 0)) by rw [h4]; exact set_other (box_adds K1.out.2 G2.out.2.2) HNe.out)
    have F17 := hid K2.out.2
    have O4 := hid (show NOwn b4 a6.heap.size ⟨lP, kaP, kcP, ksP, gP, iaP, icP, isP⟩ by rw [h4]; exact (K1.out.1.adds G2.out.2.2).touchR (touch_row _ _ _) (box_adds V.out G2.out.2.2))
    rw [← h4]
    clear h4
    have S4 := hid (same_yes (z := ⟨lP, kaP, kcP, ksP, gP, iaP, icP, isP⟩) (zr := ⟨lR, kaR, kcR, ksR, gR, iaR, icR, isR⟩) G1.out.1 G2.out.1 O4.out.nq K2.out.1 HBs.out.1.2)
    have hee : ((e2 : Int) != (e2 : Int)) = false := by simp
    go_upto_region 13 with (first
      | (refine wpList_load_row rfl 28 _ rfl N15 rfl 28 _ _ _ F15.out Try.underlying28 rfl (info4 _ _ _ _) ?_)
      | (refine wpList_load_row rfl 26 _ rfl N17 rfl 26 _ _ _ F17.out Try.underlying26 rfl (infoR4 _ _ _ _) ?_)
      | (go_at_call 20; refine S4.out.mono ?_; rintro e b5 ⟨rfl, hA5⟩; have D5 := hid hA5; clear hA5))
    clear hee S4
    have J15 := hid (box_adds F15.out D5.out)
    have J17 := hid (box_adds F17.out D5.out)
    have HSp := hid (show Calls Try.prog 24 #[.agg #[.bool lP, .slice kaP ksP.length kcP, .slice gP.a gP.l.length gP.cap, .slice iaP isP.length icP]] b5 (PSpoil b5 a6.heap.size ⟨lP, kaP, kcP, ksP, gP, iaP, icP, isP⟩) from spoil_any ⟨lP, kaP, kcP, ksP, gP, iaP, icP, isP⟩ b5 a6.heap.size (O4.out.adds D5.out) (nd_ns G1.out.1 HBs.out.1.2 (by decide)))
    go_upto_region 14 with (first
      | (refine wpList_load_row rfl 28 _ rfl N15 rfl 28 _ _ _ J15.out Try.underlying28 rfl (info4 _ _ _ _) ?_)
      | (go_at_call 24; refine HSp.out.mono ?_; rintro e b6 ⟨rfl, hT6, hK6⟩; have T6 := hid hT6; have C6 := hid hK6; clear hT6 hK6))
    have LSb := hid ((L4.out.adds D5.out).more (T6.out.mono (fun k _ c => c.1)) LSa.out.size)
    have U15b := hid (C6.out N15 _ 28 J15.out (.inl rfl))
    have U17b := hid (C6.out N17 _ 26 J17.out (.inr rfl))
    clear F15 F17 J15 J17 T6 C6 HSp O4 D5 L4 G1
    clear HRm HRRm L2 K1 K2 G2 V U15a U17a LSa
    go_upto_region 15 with (first
      | (refine wpList_load_row rfl 28 _ rfl N13 rfl 28 _ _ _ (LB.out b6 LSb.out).1.1 Try.underlying28 rfl (info4 _ _ _ _) ?_)
      | (go_at_call 29; refine (HCt.out b6 LSb.out).mono ?_; rintro e c1 ⟨lP, kaP, kcP, ksP, gP, iaP, icP, isP, lO, kaO, kcO, ksO, gO, iaO, icO, isO, rfl, G1⟩)
      | (refine wpList_store_row rfl 28 _ _ rfl N15 #[.bool lP, .slice kaP ksP.length kcP, .slice gP.a gP.l.length gP.cap, .slice iaP isP.length icP] rfl rfl 28 _ (box_adds (box_adds U15b.out G1.out.2.2.2.2.1) ((Touch.refl _ c1).alloc NZ)) (info4 _ _ _ _) rfl (one4 _ _ _ _ _ _ _ _ _ _) ?_)
      | (refine wpList_store_row rfl 28 _ _ rfl c1.heap.size #[.bool lO, .slice kaO ksO.length kcO, .slice gO.a gO.l.length gO.cap, .slice iaO isO.length icO] rfl rfl 28 _ (set_other (heap_alloc_new c1 NZ) (by have q := (Array.getElem?_eq_some_iff.1 (box_adds U15b.out G1.out.2.2.2.2.1)).1; omega)) (info4 _ _ _ _) rfl (one4 _ _ _ _ _ _ _ _ _ _) ?_))
    obtain ⟨N19, hN19⟩ : ∃ N, N = c1.heap.size := ⟨_, rfl⟩
    obtain ⟨c2, h2⟩ : ∃ W, W = ((c1.alloc NZ).setRow N15 #[.bool lP, .slice kaP ksP.length kcP, .slice gP.a gP.l.length gP.cap, .slice iaP isP.length icP]).setRow N19 #[.bool lO, .slice kaO ksO.length kcO, .slice gO.a gO.l.length gO.cap, .slice iaO isO.length icO] := ⟨_, rfl⟩
    obtain ⟨C, hC, hCP, hCO⟩ := G1.out.2.2.2.2.2
    have HC0 := hid hC
    have HCP := hid hCP
    have K1 := hid (cutb_end #[.bool lP, .slice kaP ksP.length kcP, .slice gP.a gP.l.length gP.cap, .slice iaP isP.length icP] #[.bool lO, .slice kaO ksO.length kcO, .slice gO.a gO.l.length gO.cap, .slice iaO isO.length icO] G1.out.2.2.1 G1.out.2.2.2.1 hCO (box_adds U15b.out G1.out.2.2.2.2.1) hN19 h2)
    clear hC hCP hCO
    rw [← hN19, ← h2]
    clear hN19 h2
    have L2 := hid (K1.out.2.2.2 wc (LSb.out.adds G1.out.2.2.2.2.1) HN15.out)
    have V := hid (K1.out.2.2.1 N17 _ (box_adds U17b.out G1.out.2.2.2.2.1) (fun c => HNe.out c.symm))
    go_upto_region 16 with (first
      | (refine wpList_load_row rfl 26 _ rfl N6 rfl 26 _ _ _ (LB.out c2 L2.out).2.1 Try.underlying26 rfl (infoR4 _ _ _ _) ?_)
      | (go_at_call 30; refine (HRCt.out c2 L2.out).mono ?_; rintro e c3 ⟨lR, kaR, kcR, ksR, gR, iaR, icR, isR, lS, kaS, kcS, ksS, gS, iaS, icS, isS, rfl, G2⟩)
      | (refine wpList_store_row rfl 26 _ _ rfl N17 #[.bool lR, .slice kaR ksR.length kcR, .slice gR.a gR.l.length gR.cap, .slice iaR isR.length icR] rfl rfl 26 _ (box_adds (box_adds V.out G2.out.2.2.2.2) ((Touch.refl _ c3).alloc RZ)) (infoR4 _ _ _ _) rfl (one4 _ _ _ _ _ _ _ _ _ _) ?_)
      | (refine wpList_store_row rfl 26 _ _ rfl c3.heap.size #[.bool lS, .slice kaS ksS.length kcS, .slice gS.a gS.l.length gS.cap, .slice iaS isS.length icS] rfl rfl 26 _ (set_other (heap_alloc_new c3 RZ) (by have q := (Array.getElem?_eq_some_iff.1 (box_adds V.out G2.out.2.2.2.2)).1; omega)) (infoR4 _ _ _ _) rfl (one4 _ _ _ _ _ _ _ _ _ _) ?_))
    obtain ⟨N20, hN20⟩ : ∃ N, N = c3.heap.size := ⟨_, rfl⟩
    obtain ⟨c4, h4⟩ : ∃ W, W = ((c3.alloc RZ).setRow N17 #[.bool lR, .slice kaR ksR.length kcR, .slice gR.a gR.l.length gR.cap, .slice iaR isR.length icR]).setRow N20 #[.bool lS, .slice kaS ksS.length kcS, .slice gS.a gS.l.length gS.cap, .slice iaS isS.length icS] := ⟨_, rfl⟩
    have K2 := hid (rcutb_end #[.bool lR, .slice kaR ksR.length kcR, .slice gR.a gR.l.length gR.cap, .slice iaR isR.length icR] #[.bool lS, .slice kaS ksS.length kcS, .slice gS.a gS.l.length gS.cap, .slice iaS isS.length icS] G2.out.2.2.1 G2.out.2.2.2.1 (box_adds V.out G2.out.2.2.2.2) (fun k hk c => by
      have q1 := HN17.out
      have q2 := (Array.getElem?_eq_some_iff.1 V.out).1
      omega) hN20 h4)
    rw [← hN20, ← h4]
    clear hN20 h4
    have L4 := hid (K2.out.2.2.2.1 wc (L2.out.adds G2.out.2.2.2.2) HN17.out)
    have F15 := hid (K2.out.2.2.1 N15 _ (box_adds K1.out.2.1.1 G2.out.2.2.2.2) HNe.out)
    have F19 := hid (K2.out.2.2.1 N19 _ (box_adds K1.out.2.1.2 G2.out.2.2.2.2) (types_ne K1.out.2.1.2 V.out))
    have F17 := hid K2.out.2.1.1
    have F20 := hid K2.out.2.1.2
    have O4 := hid (show (NOwn c4 b6.heap.size ⟨lP, kaP, kcP, ksP, gP, iaP, icP, isP⟩ ∧ NOwn c4 b6.heap.size ⟨lO, kaO, kcO, ksO, gO, iaO, icO, isO⟩) ∧ NOwn c4 C ⟨lO, kaO, kcO, ksO, gO, iaO, icO, isO⟩ from ⟨⟨K2.out.2.2.2.2 _ _ (K1.out.1.1.adds G2.out.2.2.2.2), K2.out.2.2.2.2 _ _ (K1.out.1.2.1.adds G2.out.2.2.2.2)⟩, K2.out.2.2.2.2 _ _ (K1.out.1.2.2.adds G2.out.2.2.2.2)⟩)
    have S4 := hid (same_yes (z := ⟨lP, kaP, kcP, ksP, gP, iaP, icP, isP⟩) (zr := ⟨lR, kaR, kcR, ksR, gR, iaR, icR, isR⟩) G1.out.1 G2.out.1 O4.out.1.1.nq K2.out.1.1 HBs.out.2.1.1)
    have S5 := hid (fun W (hA : Adds c4 W) => same_yes (z := ⟨lO, kaO, kcO, ksO, gO, iaO, icO, isO⟩) (zr := ⟨lS, kaS, kcS, ksS, gS, iaS, icS, isS⟩) G1.out.2.1 G2.out.2.1 (O4.out.1.2.adds hA).nq (K2.out.1.2.adds hA) HBs.out.2.1.2)
    have hee : ((e3 : Int) != (e3 : Int)) = false := by simp
    go_upto_region 18 with (first
      | (go_at_call 20; refine (S5.out c5 D5.out).mono ?_; rintro e c6 ⟨rfl, hA6⟩; have D6 := hid (D5.out.trans hA6); clear hA6)
      | (go_at_call 20; refine S4.out.mono ?_; rintro e c5 ⟨rfl, hA5⟩; have D5 := hid hA5; clear hA5)
      | (refine wpList_load_row rfl 28 _ rfl N15 rfl 28 _ _ _ F15.out Try.underlying28 rfl (info4 _ _ _ _) ?_)
      | (refine wpList_load_row rfl 26 _ rfl N17 rfl 26 _ _ _ F17.out Try.underlying26 rfl (infoR4 _ _ _ _) ?_)
      | (refine wpList_load_g (by rfl) 28 _ rfl N19 0 rfl [.bool lO, .slice kaO ksO.length kcO, .slice gO.a gO.l.length gO.cap, .slice iaO isO.length icO] _ (rng_of (box_adds F19.out D5.out)) Try.underlying28 rfl infoN.out ?_)
      | (refine wpList_load_g (by rfl) 26 _ rfl N20 0 rfl [.bool lS, .slice kaS ksS.length kcS, .slice gS.a gS.l.length gS.cap, .slice iaS isS.length icS] _ (rng_of (box_adds F20.out D5.out)) Try.underlying26 rfl infoRN.out ?_))
    clear hee S4 S5
    have J15 := hid (box_adds F15.out D6.out)
    have J17 := hid (box_adds F17.out D6.out)
    have J19 := hid (box_adds F19.out D6.out)
    have HSp := hid (show Calls Try.prog 24 #[.agg #[.bool lP, .slice kaP ksP.length kcP, .slice gP.a gP.l.length gP.cap, .slice iaP isP.length icP]] c6 (PSpoil c6 b6.heap.size ⟨lP, kaP, kcP, ksP, gP, iaP, icP, isP⟩) from spoil_any ⟨lP, kaP, kcP, ksP, gP, iaP, icP, isP⟩ c6 b6.heap.size (O4.out.1.1.adds D6.out) (nd_ns G1.out.1 HBs.out.2.1.1 (by decide)))
    go_upto_region 19 with (first
      | (refine wpList_load_row rfl 28 _ rfl N15 rfl 28 _ _ _ J15.out Try.underlying28 rfl (info4 _ _ _ _) ?_)
      | (go_at_call 24; refine HSp.out.mono ?_; rintro e c7 ⟨rfl, hT6, hK6⟩; have T6 := hid hT6; have C6 := hid hK6; clear hT6 hK6))
    have O7 := hid (show NOwn c7 C ⟨lO, kaO, kcO, ksO, gO, iaO, icO, isO⟩ from (O4.out.2.adds D6.out).high T6.out (fun k hk c => by have := blk_lt HCP.out k c.2; omega))
    have HSp2 := hid (show Calls Try.prog 24 #[.agg #[.bool lO, .slice kaO ksO.length kcO, .slice gO.a gO.l.length gO.cap, .slice iaO isO.length icO]] c7 (PSpoil c7 C ⟨lO, kaO, kcO, ksO, gO, iaO, icO, isO⟩) from spoil_any ⟨lO, kaO, kcO, ksO, gO, iaO, icO, isO⟩ c7 C O7.out (nd_ns G1.out.2.1 HBs.out.2.1.2 (by decide)))
    have L7 := hid ((L4.out.adds D6.out).more (T6.out.mono (fun k _ c => c.1)) LSb.out.size)
    have U19 := hid (C6.out N19 _ 28 J19.out (.inl rfl))
    go_upto_region 20 with (first
      | (refine wpList_load_row rfl 28 _ rfl N19 rfl 28 _ _ _ U19.out Try.underlying28 rfl (info4 _ _ _ _) ?_)
      | (go_at_call 24; refine HSp2.out.mono ?_; rintro e c8 ⟨rfl, hT6, hK6⟩; have T8 := hid hT6; have C8 := hid hK6; clear hT6 hK6))
    have LSc := hid (L7.out.more (T8.out.mono (fun k _ c => c.1)) (Nat.le_trans LSb.out.size HC0.out))
    have U15c := hid (C8.out N15 _ 28 (C6.out N15 _ 28 J15.out (.inl rfl)) (.inl rfl))
    have U17c := hid (C8.out N17 _ 26 (C6.out N17 _ 26 J17.out (.inr rfl)) (.inr rfl))
    clear F15 F17 F19 F20 J15 J17 J19 T6 C6 T8 C8 HSp HSp2 O4 O7 D5 D6 L4 L7 G1 G2 K1 K2 HCt HRCt L2 V U15b U17b U19 LSb HC0 HCP
    go_upto_region 21 with (first
      | (refine wpList_load_row rfl 28 _ rfl N13 rfl 28 _ _ _ (LB.out c8 LSc.out).1.1 Try.underlying28 rfl (info4 _ _ _ _) ?_)
      | (refine wpList_load_row rfl 28 _ rfl N14 rfl 28 _ _ _ (LB.out c8 LSc.out).1.2 Try.underlying28 rfl (info4 _ _ _ _) ?_)
      | (go_at_call 31; refine (HJn.out c8 LSc.out).mono ?_; rintro e d1 ⟨lP, kaP, kcP, ksP, gP, iaP, icP, isP, rfl, G1⟩)
      | (refine wpList_store_row rfl 28 _ _ rfl N15 #[.bool lP, .slice kaP ksP.length kcP, .slice gP.a gP.l.length gP.cap, .slice iaP isP.length icP] rfl rfl 28 _ (box_adds U15c.out G1.out.2.2) (info4 _ _ _ _) rfl (one4 _ _ _ _ _ _ _ _ _ _) ?_))
    obtain ⟨d2, h2⟩ : ∃ W, W = d1.setRow N15 #[.bool lP, .slice kaP ksP.length kcP, .slice gP.a gP.l.length gP.cap, .slice iaP isP.length icP] := ⟨_, rfl⟩
    have K1 := hid (show NOwn d2 c8.heap.size ⟨lP, kaP, kcP, ksP, gP, iaP, icP, isP⟩ ∧ d2.heap[N15]? = some (.cells #[.bool lP, .slice kaP ksP.length kcP, .slice gP.a gP.l.length gP.cap, .slice iaP isP.length icP] 28 (0, 0)) by rw [h2]; exact oput G1.out.2.1 (box_adds U15c.out G1.out.2.2))
    have L2 := hid (show Late wc d2 by rw [h2]; exact (LSc.out.adds G1.out.2.2).row HN15.out _)
    have V0 := set_other (N := N15) (cs := #[.bool lP, .slice kaP ksP.length kcP, .slice gP.a gP.l.length gP.cap, .slice iaP isP.length icP]) (box_adds U17c.out G1.out.2.2) (fun c => HNe.out c.symm)
    rw [← h2] at V0
    have V := hid V0
    clear V0
    rw [← h2]
    clear h2
    go_upto_region 22 with (first
      | (refine wpList_load_row rfl 26 _ rfl N6 rfl 26 _ _ _ (LB.out d2 L2.out).2.1 Try.underlying26 rfl (infoR4 _ _ _ _) ?_)
      | (refine wpList_load_row rfl 26 _ rfl N7 rfl 26 _ _ _ (LB.out d2 L2.out).2.2 Try.underlying26 rfl (infoR4 _ _ _ _) ?_)
      | (go_at_call 32; refine (HRJn.out d2 L2.out).mono ?_; rintro e d3 ⟨lR, kaR, kcR, ksR, gR, iaR, icR, isR, rfl, G2⟩)
      | (refine wpList_store_row rfl 26 _ _ rfl N17 #[.bool lR, .slice kaR ksR.length kcR, .slice gR.a gR.l.length gR.cap, .slice iaR isR.length icR] rfl rfl 26 _ (box_adds V.out G2.out.2.2) (infoR4 _ _ _ _) rfl (one4 _ _ _ _ _ _ _ _ _ _) ?_))
    obtain ⟨d4, h4⟩ : ∃ W, W = d3.setRow N17 #[.bool lR, .slice kaR ksR.length kcR, .slice gR.a gR.l.length gR.cap, .slice iaR isR.length icR] := ⟨_, rfl⟩
    have K2 := hid (show NQ d4 (fun k => k < wc.heap.size ∨ d2.heap.size ≤ k) ⟨lR, kaR, kcR, ksR, gR, iaR, icR, isR⟩ ∧ d4.heap[N17]? = some (.cells #[.bool lR, .slice kaR ksR.length kcR, .slice gR.a gR.l.length gR.cap, .slice iaR isR.length icR] 26 (0, 0)) by
      rw [h4]
      refine rput G2.out (box_adds V.out G2.out.2.2) (fun k hk c => ?_)
      have q1 := HN17.out
      have q2 := (Array.getElem?_eq_some_iff.1 V.out).1
      omega)
    have L4 := hid (show Late wc d4 by rw [h4]; exact (L2.out.adds G2.out.2.2).row HN17.out _)
    have F15 := hid (show d4.heap[N15]? = some (.cells #[.bool lP, .slice kaP ksP.length kcP, .slice gP.a gP.l.length gP.cap, .slice iaP isP.length icP] 28 (0, 0)) by rw [h4]; exact set_other (box_adds K1.out.2 G2.out.2.2) HNe.out)
    have F17 := hid K2.out.2
    have O4 := hid (show NOwn d4 c8.heap.size ⟨lP, kaP, kcP, ksP, gP, iaP, icP, isP⟩ by rw [h4]; exact (K1.out.1.adds G2.out.2.2).touchR (touch_row _ _ _) (box_adds V.out G2.out.2.2))
    rw [← h4]
    clear h4
    have S4 := hid (same_yes (z := ⟨lP, kaP, kcP, ksP, gP, iaP, icP, isP⟩) (zr := ⟨lR, kaR, kcR, ksR, gR, iaR, icR, isR⟩) G1.out.1 G2.out.1 O4.out.nq K2.out.1 HBs.out.2.2)
    have hee : ((e5 : Int) != (e5 : Int)) = false := by simp
    go_upto_region 24 with (first
      | (refine wpList_load_row rfl 28 _ rfl N15 rfl 28 _ _ _ F15.out Try.underlying28 rfl (info4 _ _ _ _) ?_)
      | (refine wpList_load_row rfl 26 _ rfl N17 rfl 26 _ _ _ F17.out Try.underlying26 rfl (infoR4 _ _ _ _) ?_)
      | (go_at_call 20; refine S4.out.mono ?_; rintro e d5 ⟨rfl, hA5⟩; have D5 := hid hA5; clear hA5))
    clear hee S4
    have J15 := hid (box_adds F15.out D5.out)
    have J17 := hid (box_adds F17.out D5.out)
    have HSp := hid (show Calls Try.prog 24 #[.agg #[.bool lP, .slice kaP ksP.length kcP, .slice gP.a gP.l.length gP.cap, .slice iaP isP.length icP]] d5 (PSpoil d5 c8.heap.size ⟨lP, kaP, kcP, ksP, gP, iaP, icP, isP⟩) from spoil_any ⟨lP, kaP, kcP, ksP, gP, iaP, icP, isP⟩ d5 c8.heap.size (O4.out.adds D5.out) (nd_ns G1.out.1 HBs.out.2.2 (by decide)))
    go_upto_region 25 with (first
      | (refine wpList_load_row rfl 28 _ rfl N15 rfl 28 _ _ _ J15.out Try.underlying28 rfl (info4 _ _ _ _) ?_)
      | (go_at_call 24; refine HSp.out.mono ?_; rintro e d6 ⟨rfl, hT6, hK6⟩; have T6 := hid hT6; have C6 := hid hK6; clear hT6 hK6))
    have LSd := hid ((L4.out.adds D5.out).more (T6.out.mono (fun k _ c => c.1)) LSc.out.size)
    have U15d := hid (C6.out N15 _ 28 J15.out (.inl rfl))
    have U17d := hid (C6.out N17 _ 26 J17.out (.inr rfl))
    clear F15 F17 J15 J17 T6 C6 HSp O4 D5 L4 G1
    clear HJn HRJn L2 K1 K2 G2 V U15c U17c LSc
    have SX := hid (fun W (L : Late wc W) => show Calls Try.prog 20 #[.agg #[.bool lA, .slice kaA ksA.length kcA, .slice gA.a gA.l.length gA.cap, .slice iaA isA.length icA], .agg #[.bool xl, .slice xka xks.length xkc, .slice xg.a xg.l.length xg.cap, .slice xia xis.length xic]] W (Adding (.bool true) W) from same_yes (z := ⟨lA, kaA, kcA, ksA, gA, iaA, icA, isA⟩) (zr := ⟨xl, xka, xkc, xks, xg, xia, xic, xis⟩) EA.out HN.out.symm (LO.out W L).1.nq (LX.out W L).1 (HB2.out.mono (by decide)))
    have SY := hid (fun W (L : Late wc W) => show Calls Try.prog 20 #[.agg #[.bool lB, .slice kaB ksB.length kcB, .slice gB.a gB.l.length gB.cap, .slice iaB isB.length icB], .agg #[.bool yl, .slice yka yks.length ykc, .slice yg.a yg.l.length yg.cap, .slice yia yis.length yic]] W (Adding (.bool true) W) from same_yes (z := ⟨lB, kaB, kcB, ksB, gB, iaB, icB, isB⟩) (zr := ⟨yl, yka, ykc, yks, yg, yia, yic, yis⟩) EB.out HM.out.symm (LO.out W L).2.nq (LX.out W L).2 (HB3.out.mono (by decide)))
    go_wp2_with (first
      | (go_at_call 21; refine (HW.out d8).mono ?_; rintro e d9 ⟨rfl, hA9⟩; have A9 := hid (((LSd.out.from AI.out).trans D8.out).trans hA9); clear hA9)
      | (go_at_call 20; refine (SY.out d7 (LSd.out.adds D7.out)).mono ?_; rintro e d8 ⟨rfl, hA8⟩; have D8 := hid (D7.out.trans hA8); clear hA8)
      | (go_at_call 20; refine (SX.out d6 LSd.out).mono ?_; rintro e d7 ⟨rfl, hA7⟩; have D7 := hid hA7; clear hA7)
      | (refine wpList_load_row rfl 28 _ rfl N13 rfl 28 _ _ _ (LB.out d6 LSd.out).1.1 Try.underlying28 rfl (info4 _ _ _ _) ?_)
      | (refine wpList_load_row rfl 26 _ rfl N6 rfl 26 _ _ _ (LB.out d6 LSd.out).2.1 Try.underlying26 rfl (infoR4 _ _ _ _) ?_)
      | (refine wpList_load_g (by rfl) 28 _ rfl N14 0 rfl [.bool lB, .slice kaB ksB.length kcB, .slice gB.a gB.l.length gB.cap, .slice iaB isB.length icB] _ (rng_of (LB.out d7 (LSd.out.adds D7.out)).1.2) Try.underlying28 rfl infoN.out ?_)
      | (refine wpList_load_g (by rfl) 26 _ rfl N7 0 rfl [.bool yl, .slice yka yks.length ykc, .slice yg.a yg.l.length yg.cap, .slice yia yis.length yic] _ (rng_of (LB.out d7 (LSd.out.adds D7.out)).2.2) Try.underlying26 rfl infoRN.out ?_))
    go_ret
    exact ⟨rfl, A9.out⟩
end Go.Proofs.Ytplppnngmlljnaa
