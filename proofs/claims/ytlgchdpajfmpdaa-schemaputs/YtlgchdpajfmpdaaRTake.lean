/- The reference: a table that is taken. -/
import Derived.Test.YtlgchdpajfmpdaaRPutT
namespace Go.Proofs.Ytlgchdpajfmpdaa
open Go.RowKit

namespace M
theorem textR_ref {s : St} (h : s.e ≠ 0) : textR 20 s = ([], s) := by unfold textR; rw [uintR_ref h, takeR_ref h]
theorem colR_ref {s : St} (h : s.e ≠ 0) : (colR s).2 = s := by
  unfold colR fixedR
  rw [textR_ref h]
  simp only
  rw [takeR_ref h]
theorem colsR_ref : ∀ (n : Nat) {s : St}, s.e ≠ 0 → (colsR n s).2 = s
  | 0, _, _ => rfl
  | n + 1, s, h => by
    rw [colsR]
    simp only
    rw [colR_ref h]
    exact colsR_ref n h
end M
theorem IsS.high {w w' : World} {T : Nat → Prop} {p : Nat} {s : M.St} (h : IsS w p s) (hT : Touch T w w') (hn : ∀ k, T k → p < k) : IsS w' p s := by
  obtain ⟨a, cap, hb, hL⟩ := h.box
  refine ⟨⟨a, cap, by rw [hT.block p (lt_of_heap hb) (fun c => absurd (hn p c) (Nat.lt_irrefl _))]; exact hb, ⟨hL.at_.block (fun b o ea hlt => hT.block b hlt (fun c => ?_)), hL.room, hL.non, hL.low⟩⟩, h.good, h.len, h.err⟩
  have h1 : b < p := (hL.low _ ea).2
  have h2 := hn b c
  omega
theorem IsS.ecell {w : World} {p : Nat} {s : M.St} (h : IsS w p s) : w.cell? ⟨p, 1, none⟩ = some (.int .i64 (s.e : Int)) := by
  obtain ⟨a, cap, hb, _⟩ := h.box
  have := cellOf hb 1
  simpa using this
theorem IsS.lcell {w : World} {p : Nat} {s : M.St} (h : IsS w p s) : ∃ a cap, w.cell? ⟨p, 0, none⟩ = some (.slice a s.l.length cap) := by
  obtain ⟨a, cap, hb, _⟩ := h.box
  have := cellOf hb 0
  exact ⟨a, cap, by simpa using this⟩
theorem rtext_z {p : Nat} {s : M.St} {w : World} {t : List UInt8} {s' : M.St} (ht : M.textR 20 s = (t, s')) (h : IsS w p s) : Calls Try.prog 43 #[.pointer (some ⟨p, 0, none⟩), .int .i64 20] w (PS w p (.string ⟨t.toArray⟩) s') := by
  have := rtext_any 20 (by omega) h
  rw [ht] at this
  exact this
theorem ruint_z {p : Nat} {s : M.St} {w : World} {n : Nat} {s' : M.St} (ht : M.uintR 8 s = (n, s')) (h : IsS w p s) : Calls Try.prog 44 #[.pointer (some ⟨p, 0, none⟩), .int .u64 8] w (PS w p (.int .u64 (n : Int)) s') := by
  have := ruint_any 8 h
  rw [ht] at this
  exact this
theorem rfixed_z {p : Nat} {s : M.St} {w : World} {n : Nat} {s' : M.St} (ht : M.fixedR 1 s = (n, s')) (h : IsS w p s) : Calls Try.prog 45 #[.pointer (some ⟨p, 0, none⟩), .int .i64 1] w (PS w p (.int .u64 (n : Int)) s') := by
  have := rfixed_any 1 h
  rw [ht] at this
  exact this
theorem append_c {w : World} {ops : Array Oper} {rest : List Oper} {o : Oper} {act : Act} {Q : Exit → Act → World → Prop} (hgd : o.guard = none) (s x : Operand)
    (ho : o.op = .call { callee := .builtin .append, args := #[s, x], argTypes := #[22, 22] }) (base : Nat) (v : Value) (k : Nat) (d : List M.Col) (hs : act.eval s = v) (hown : w.ownsRow base 51 2 v k (SC d))
    (g : Nat) (c : M.Col) {fr : Nat × Nat} (hx : act.eval x = .slice (some ⟨g, 0, none⟩) 1 1) (hg : w.heap[g]? = some (.cells #[.string ⟨c.1.toArray⟩, .int .i64 c.2] 51 fr)) (hk : k ≤ 1000) (hbase : base ≤ w.heap.size)
    (h : ∀ g' cap' w', w'.ownsRow base 51 2 (.slice (some ⟨g', 0, none⟩) (k + 1) cap') (k + 1) (SC (d ++ [c])) → w.grownBy w' v.ownBlock → wpList Try.prog ops Q rest (act.put o.dst (.slice (some ⟨g', 0, none⟩) (k + 1) cap')) w') : wpList Try.prog ops Q (o :: rest) act w := by
  refine wpList_plain hgd fun K' hK' => ?_
  obtain ⟨g', cap', w', hrun, h1, h2⟩ := append_col o.type c hown hg hk hbase
  unfold Oper.wp
  simp [execOp, ho, resolve, invoke, builtin, hs, hx, hrun, Result.andThen]
  exact hK' _ _ (h g' cap' w' h1 h2)
/-- What Take leaves. -/
def PTakeS (w : World) (p : Nat) (s : M.St) (e : Ending) (w' : World) : Prop :=
  ∃ a cap, e = .returned (.tuple #[.agg #[.string ⟨(M.tabN s).toArray⟩, .slice a (M.tabC s).length cap], .int .i64 (M.tErr s : Int)]) ∧ Hid (ColAt w' a (M.tabC s) ∧ (a = none → cap = 0) ∧ IsS w' p (M.tSt s) ∧ Touch (Own1 (.pointer (some ⟨p, 0, none⟩))) w w')
/-- What holds ahead of each column. -/
def JTakeS (w : World) (p B p2 p4 : Nat) (nm : List UInt8) (N : Nat) (s2 : M.St) (k : Nat) (vv : Value) (d : List M.Col) (sk : M.St) (wr : World) : Prop :=
  M.colsR N s2 = (d ++ (M.colsR (N - k) sk).1, (M.colsR (N - k) sk).2) ∧ d.length = k ∧ wr.heap[p4]? = some (.cells #[.string ⟨nm.toArray⟩, vv] 24 (0, 0)) ∧ wr.ownsRow B 51 2 vv k (SC d) ∧ IsS wr p sk ∧ wr.heap[p2]? = some (.cells #[.string ⟨#[]⟩, .slice none 0 0] 24 (0, 0)) ∧ Touch (Own1 (.pointer (some ⟨p, 0, none⟩))) w wr ∧ B ≤ wr.heap.size
theorem jtakeS_next {w wr wb wc wd : World} {p B p2 p4 N k kb g' cap' : Nat} {nm tx : List UInt8} {s2 sk s4 : M.St} {vv : Value} {d : List M.Col} (hlt : k < N) (hp4 : p < p4) (HP : w.heap.size = p2) (hs : p2 + 1 ≤ p4 ∧ p4 + 1 ≤ B) (hp : p < p2)
    (HI : JTakeS w p B p2 p4 nm N s2 k vv d sk wr) (HC : M.colR sk = ((tx, (kb : Int)), s4)) (T2 : Touch (Own1 (.pointer (some ⟨p, 0, none⟩))) wr wb) (R2 : IsS wb p s4) (A3 : Adds wb wc) (TD : Touch (fun j => B ≤ j) wc wd) (B4 : wd.heap[p4]? = some (.cells #[.string ⟨nm.toArray⟩, vv] 24 (0, 0)))
    (PD : wd.ownsRow B 51 2 (.slice (some ⟨g', 0, none⟩) (k + 1) cap') (k + 1) (SC (d ++ [(tx, (kb : Int))]))) : JTakeS w p B p2 p4 nm N s2 (k + 1) (.slice (some ⟨g', 0, none⟩) (k + 1) cap') (d ++ [(tx, (kb : Int))]) s4 (wd.setCell ⟨p4, 1, none⟩ (.slice (some ⟨g', 0, none⟩) (k + 1) cap')) := by
  obtain ⟨i1, i2, i3, i4, i5, i6, i7, i8⟩ := HI
  have TS : Touch (fun j => j = p4) wd (wd.setCell ⟨p4, 1, none⟩ (.slice (some ⟨g', 0, none⟩) (k + 1) cap')) := (Touch.refl (fun j => j = p4) wd).setCell (p := ⟨p4, 1, none⟩) (fun _ => rfl) _
  have hlt2 : p2 < wr.heap.size := lt_of_heap i6
  refine ⟨?_, by simp [i2], ?_, ?_, ?_, ?_, ?_, ?_⟩
  · have := M.colsR_step i1 hlt
    rw [HC] at this; exact this
  · rw [heap_setCell_same wd p4 1 _ 24 _ B4]; rfl
  · exact own_touch PD TS (fun j hj => by omega)
  · exact ((R2.adds A3).high TD (fun j hj => by omega)).high TS (fun j hj => by omega)
  · have e1 := kept1 T2 i6 hp
    have e2 := kept A3 e1
    rw [TS.block p2 (by have := lt_of_heap e2; have := TD.size; omega) (by omega), TD.block p2 (lt_of_heap e2) (by omega)]
    exact e2
  · have t1 : Touch (Own1 (.pointer (some ⟨p, 0, none⟩))) w wc := (i7.trans T2).trans (A3.mono (fun _ _ c => c.elim))
    exact (t1.then TD (fun j hj hb => by omega)).then TS (fun j hj hb => by omega)
  · have := T2.size; have := A3.size; have := TD.size; have := TS.size; omega
theorem takeS_end {w wr wx : World} {p p2 B : Nat} {sk : M.St} {a : Option Addr} {d : List M.Col} (x y : Value) (hp2 : w.heap.size = p2) (hB : p2 < B) (hp : p < p2) (hR : IsS wr p sk) (hT : Touch (Own1 (.pointer (some ⟨p, 0, none⟩))) w wr) (hA : Adds wr wx) (hC : ColAt wr a d) (hb : ∀ b o, a = some ⟨b, o, none⟩ → B ≤ b) :
    ColAt ((wx.setCell ⟨p2, 0, none⟩ x).setCell ⟨p2, 1, none⟩ y) a d ∧ IsS ((wx.setCell ⟨p2, 0, none⟩ x).setCell ⟨p2, 1, none⟩ y) p sk ∧ Touch (Own1 (.pointer (some ⟨p, 0, none⟩))) w ((wx.setCell ⟨p2, 0, none⟩ x).setCell ⟨p2, 1, none⟩ y) := by
  have TS : Touch (fun j => j = p2) wx ((wx.setCell ⟨p2, 0, none⟩ x).setCell ⟨p2, 1, none⟩ y) := ((Touch.refl (fun j => j = p2) wx).setCell (p := ⟨p2, 0, none⟩) (fun _ => rfl) _).setCell (p := ⟨p2, 1, none⟩) (fun _ => rfl) _
  refine ⟨(hC.adds hA).block (fun b o e hlt => TS.block b hlt (fun c => by have := hb b o e; omega)), (hR.adds hA).high TS (fun j hj => by omega), ?_⟩
  exact (hT.trans (hA.mono (fun _ _ c => c.elim))).then TS (fun j hj hb => by omega)
theorem Touch.put {T : Nat → Prop} {w w' : World} {g i : Nat} (h : Touch T w w') (hg : w.heap.size ≤ g) (u : Value) : Touch T w (w'.setCell ⟨g, i, none⟩ u) := h.setCell (p := ⟨g, i, none⟩) (fun c => absurd c (by simp; omega)) u
set_option maxRecDepth 100000 in
set_option maxHeartbeats 4000000 in
theorem takeS_any (p : Nat) (s : M.St) (w : World) (hR : IsS w p s) : Calls Try.prog 23 #[.pointer (some ⟨p, 0, none⟩)] w (PTakeS w p s) := by
  have hp : p < w.heap.size := hR.lt
  obtain ⟨⟨nm, s1⟩, h1⟩ : ∃ x, M.textR 20 s = x := ⟨_, rfl⟩
  obtain ⟨⟨N, s2⟩, h2⟩ : ∃ x, M.uintR 8 s1 = x := ⟨_, rfl⟩
  have hN : N ≤ 8 := by have := (M.uintR_lt 8 s1).2; rw [h2] at this; exact this
  have eN : M.tName s = nm := by unfold M.tName; rw [h1]
  have eC : M.tCols s = (M.colsR N s2).1 := by unfold M.tCols M.tN; rw [h1]; simp only; rw [h2]
  have eS : M.tSt s = (M.colsR N s2).2 := by unfold M.tSt M.tN; rw [h1]; simp only; rw [h2]
  have HE := hid (And.intro eN (And.intro eC eS))
  have A0 := hid (show Adds w ((w.alloc (.cells #[.string ⟨#[]⟩, .slice none 0 0] 24)).alloc (.cells #[.string ⟨#[]⟩, .slice none 0 0] 24)) from ((Touch.refl _ w).alloc _).alloc _)
  have H2 := hid (kept ((Touch.refl _ (w.alloc (.cells #[.string ⟨#[]⟩, .slice none 0 0] 24))).alloc (.cells #[.string ⟨#[]⟩, .slice none 0 0] 24)) (heap_alloc_new w (.cells #[.string ⟨#[]⟩, .slice none 0 0] 24)))
  have H4 := hid (show ((w.alloc (.cells #[.string ⟨#[]⟩, .slice none 0 0] 24)).alloc (.cells #[.string ⟨#[]⟩, .slice none 0 0] 24)).heap[w.heap.size + 1]? = some (.cells #[.string ⟨#[]⟩, .slice none 0 0] 24) by have := heap_alloc_new (w.alloc (.cells #[.string ⟨#[]⟩, .slice none 0 0] 24)) (.cells #[.string ⟨#[]⟩, .slice none 0 0] 24); simpa using this)
  have HT := hid (rtext_z h1 (hR.adds A0.out))
  have HU := hid (fun w' h => ruint_z (p := p) (w := w') h2 h)
  clear hR h1 h2 eN eC eS
  go_enter Try.func23, Try.ntmps23
  go_upto_region 3 with (first
    | (go_at_call 43; refine HT.out.mono ?_; rintro e w1 ⟨rfl, h1, h2⟩; have R1 := hid h1; have T1 := hid h2; have b4 := kept1 h2 H4.out (by omega); have c0 := cellOf b4 0; have f0 := frozen_of_row w1 _ 0 _ 24 b4; have B4 := hid b4; simp at c0; clear h1 h2 b4))
  have hs1 : w.heap.size + 2 ≤ w1.heap.size := by have := T1.out.size; simpa using this
  have K4 := hid (show (w1.setCell ⟨w.heap.size + 1, 0, none⟩ (.string ⟨nm.toArray⟩)).heap[w.heap.size + 1]? = some (.cells #[.string ⟨nm.toArray⟩, .slice none 0 0] 24 (0, 0)) by rw [heap_setCell_same w1 _ 0 _ 24 _ B4.out]; rfl)
  have K2 := hid (show (w1.setCell ⟨w.heap.size + 1, 0, none⟩ (.string ⟨nm.toArray⟩)).heap[w.heap.size]? = some (.cells #[.string ⟨#[]⟩, .slice none 0 0] 24) by rw [heap_setCell_other w1 _ _ _ (by simp)]; exact kept1 T1.out H2.out hp)
  have R2 := hid (R1.out.high ((Touch.refl (fun j => j = w.heap.size + 1) w1).setCell (p := ⟨w.heap.size + 1, 0, none⟩) (fun _ => rfl) (.string ⟨nm.toArray⟩)) (fun j hj => by omega))
  have T2 := hid (show Touch (Own1 (.pointer (some ⟨p, 0, none⟩))) w (w1.setCell ⟨w.heap.size + 1, 0, none⟩ (.string ⟨nm.toArray⟩)) from Touch.put (Touch.trans (A0.out.mono (fun _ _ c => c.elim)) T1.out) (by omega) _)
  have hsz : (w1.setCell ⟨w.heap.size + 1, 0, none⟩ (.string ⟨nm.toArray⟩)).heap.size = w1.heap.size := by simp [World.setCell]
  have HSZ := hid hsz
  generalize w1.setCell ⟨w.heap.size + 1, 0, none⟩ (.string ⟨nm.toArray⟩) = w2 at *
  have hs2 : w.heap.size + 2 ≤ w2.heap.size := by have := HSZ.out; omega
  clear hsz HSZ R1 T1 B4 H2 H4 HT A0 c0 f0 hs1
  generalize hp2 : w.heap.size = p2 at *
  go_wp2_with (first
    | (go_at_call 44; refine (HU.out _ R2.out).mono ?_; rintro e w3 ⟨rfl, h1, h2⟩; have R3 := hid h1; have T3 := hid h2; clear h1 h2))
  have hwr : ((N : Nat) : Int) ≤ 8 := by omega
  have L4 := hid (kept1 T3.out K4.out (by omega))
  have L2 := hid (kept1 T3.out K2.out hp)
  have T0 := hid (T2.out.trans T3.out)
  have hs3 : p2 + 2 ≤ w3.heap.size := by have := T3.out.size; omega
  have HP2 := hid hp2
  clear K4 K2 R2 T2 T3 HU hp2
  go_loopw [6] (fun iv wr => ∃ (k : Nat) (vv : Value) (d : List M.Col) (sk : M.St), iv = .int .i64 (k : Int) ∧ k ≤ N ∧ Hid (JTakeS w p w3.heap.size p2 (p2 + 1) nm N s2 k vv d sk wr)) (fun iv _ => N - (intOf iv).toNat)
  case atStart => exact ⟨0, .slice none 0 0, [], s2, rfl, Nat.zero_le _, by simp, rfl, L4.out, World.ownsRow_nil _ _ _ _, R3.out, L2.out, T0.out, Nat.le_refl _⟩
  case round =>
    obtain ⟨k, vv, d, sk, rfl, hk, HI⟩ := hrel
    clear R3 L4 L2 T0
    generalize hp4 : p2 + 1 = p4 at *
    generalize hB : w3.heap.size = B at *
    have hpp : p2 + 1 ≤ p4 ∧ p4 + 1 ≤ B := by omega
    have hp4p : p < p4 := by omega
    clear hp4 hB hs3 hs2
    have ec := HI.out.2.2.2.2.1.ecell
    by_cases hlt : k < N ∧ sk.e = 0
    · have hltz : (k : Int) < (N : Int) := by omega
      have hez : ((sk.e : Int) == 0) = true := by rw [beq_iff_eq]; omega
      have hlt1 := hlt.1
      obtain ⟨⟨tx, s3⟩, e3⟩ : ∃ x, M.textR 20 sk = x := ⟨_, rfl⟩
      obtain ⟨⟨kb, s4⟩, e4⟩ : ∃ x, M.fixedR 1 s3 = x := ⟨_, rfl⟩
      have hkb : kb < 256 := by have := M.fixedR_byte s3; rw [e4] at this; exact this
      have HC := hid (show M.colR sk = ((tx, (kb : Int)), s4) by unfold M.colR; rw [e3]; simp only; rw [e4])
      have HTX := hid (rtext_z e3 (HI.out.2.2.2.2.1.adds ((Touch.refl _ wr).alloc (.cells #[.string ⟨#[]⟩, .int .i64 0] 51))))
      have HFX := hid (fun w' h => rfixed_z (p := p) (w := w') e4 h)
      have hpw : p < wr.heap.size := HI.out.2.2.2.2.1.lt
      clear e3 e4 hlt
      go_upto_region 9 with (first
        | (go_at_call 43; refine HTX.out.mono ?_; rintro e wa ⟨rfl, h1, h2⟩; have R1 := hid h1; have T1 := hid (show Touch (Own1 (.pointer (some ⟨p, 0, none⟩))) wr wa from Touch.trans ((Touch.refl _ wr).alloc _) h2); have b7 := kept1 h2 (heap_alloc_new wr (.cells #[.string ⟨#[]⟩, .int .i64 0] 51)) hpw; have c0 := cellOf b7 0; have f0 := frozen_of_row wa _ 0 _ 51 b7; have B7 := hid b7; simp at c0; clear h1 h2 b7))
      have K7 := hid (show (wa.setCell ⟨wr.heap.size, 0, none⟩ (.string ⟨tx.toArray⟩)).heap[wr.heap.size]? = some (.cells #[.string ⟨tx.toArray⟩, .int .i64 0] 51 (0, 0)) by rw [heap_setCell_same wa _ 0 _ 51 _ B7.out]; rfl)
      have R2 := hid (R1.out.high ((Touch.refl (fun j => j = wr.heap.size) wa).setCell (p := ⟨wr.heap.size, 0, none⟩) (fun _ => rfl) (.string ⟨tx.toArray⟩)) (fun j hj => by omega))
      have T2 := hid (show Touch (Own1 (.pointer (some ⟨p, 0, none⟩))) wr (wa.setCell ⟨wr.heap.size, 0, none⟩ (.string ⟨tx.toArray⟩)) from Touch.put T1.out (Nat.le_refl _) _)
      clear c0 f0
      generalize wa.setCell ⟨wr.heap.size, 0, none⟩ (.string ⟨tx.toArray⟩) = wb at *
      clear R1 T1 B7 HTX
      go_upto_region 10 with (first
        | (go_at_call 45; refine (HFX.out _ R2.out).mono ?_; rintro e wc ⟨rfl, h1, h2⟩; have R3 := hid h1; have T3 := hid (show Touch (Own1 (.pointer (some ⟨p, 0, none⟩))) wr wc from T2.out.trans h2); have b7 := kept1 h2 K7.out hpw; have c0 := cellOf b7 1; have f0 := frozen_of_row wc _ 1 _ 51 b7; have B7 := hid b7; simp at c0; clear h1 h2 b7))
      have hkw : IntKind.i64.wrap (kb : Int) = (kb : Int) := by rw [IntKind.wrap_i64]; omega
      clear c0 f0 K7 R2 T2 HFX
      have K7 := hid (show (wc.setCell ⟨wr.heap.size, 1, none⟩ (.int .i64 (kb : Int))).heap[wr.heap.size]? = some (.cells #[.string ⟨tx.toArray⟩, .int .i64 (kb : Int)] 51 (0, 0)) by rw [heap_setCell_same wc _ 1 _ 51 _ B7.out]; rfl)
      have R2 := hid (R3.out.high ((Touch.refl (fun j => j = wr.heap.size) wc).setCell (p := ⟨wr.heap.size, 1, none⟩) (fun _ => rfl) (.int .i64 (kb : Int))) (fun j hj => by omega))
      have T2 := hid (show Touch (Own1 (.pointer (some ⟨p, 0, none⟩))) wr (wc.setCell ⟨wr.heap.size, 1, none⟩ (.int .i64 (kb : Int))) from Touch.put T3.out (Nat.le_refl _) _)
      generalize wc.setCell ⟨wr.heap.size, 1, none⟩ (.int .i64 (kb : Int)) = we at *
      clear R3 T3 B7
      have K4 := hid (kept1 T2.out HI.out.2.2.1 hp4p)
      have c7 := cellOf K7.out 0
      have c8 := cellOf K7.out 1
      have c4 := cellOf K4.out 1
      simp at c7 c8 c4
      have A3 := hid (show Adds we (we.alloc (.cells #[.string ⟨tx.toArray⟩, .int .i64 (kb : Int)] 51)) from (Touch.refl _ we).alloc _)
      have O3 := hid (own_keep (own_touch HI.out.2.2.2.1 T2.out (fun j hj => by have := own1 hj; omega)) A3.out)
      have B3 := hid (kept A3.out K4.out)
      go_wp2_with (first
        | (at_builtin; refine append_c rfl _ _ rfl B _ k d rfl O3.out we.heap.size (tx, (kb : Int)) rfl (heap_alloc_new we _) (by omega) (Nat.le_trans HI.out.2.2.2.2.2.2.2 (Nat.le_trans T2.out.size A3.out.size)) ?_; intro g' cap' wd hown hgrow
           have TD := hid (show Touch (fun j => B ≤ j) (we.alloc (.cells #[.string ⟨tx.toArray⟩, .int .i64 (kb : Int)] 51)) wd from Touch.grown (T := fun j => B ≤ j) (Touch.refl _ _) hgrow (fun j hj _ => (O3.out.lt j hj).1))
           have B4 := hid (show wd.heap[p4]? = some (.cells #[.string ⟨nm.toArray⟩, vv] 24 (0, 0)) by rw [TD.out.block p4 (lt_of_heap B3.out) (fun c => by omega)]; exact B3.out)
           have PD := hid hown
           have cd := cellOf B4.out 1
           have fd := frozen_of_row wd p4 1 _ 24 B4.out
           simp at cd
           clear hown hgrow c4 c7 c8))
      have JN := hid (jtakeS_next hlt1 hp4p HP2.out hpp hp HI.out HC.out T2.out R2.out A3.out TD.out B4.out PD.out)
      clear HI HC T2 R2 A3 TD B4 PD O3 B3 K4 K7
      go_roundw
      case rel => exact ⟨k + 1, _, _, _, by go_num, by omega, JN.out⟩
      case measure => simp [intOf]; omega
    · obtain ⟨i1, i2, i3, i4, i5, i6, i7, i8⟩ := HI.out
      have es : M.tSt s = sk := by
        rw [HE.out.2.2, i1]
        by_cases he : sk.e = 0
        · rw [show N - k = 0 by omega]; rfl
        · exact M.colsR_ref _ he
      have hHI := hid (And.intro i5 (And.intro i7 (And.intro i3 i6)))
      obtain ⟨a, cap, rfl, hcol, hnon, hbig⟩ := own_cols i4 i2
      have HF := hid (And.intro hcol (And.intro hnon hbig))
      have d0 := cellOf i6 0
      have d1 := cellOf i6 1
      have f0 := frozen_of_row wr p2 0 _ 24 i6
      have f1 := frozen_of_row wr p2 1 _ 24 i6
      have c0 := cellOf i3 0
      have c1 := cellOf i3 1
      simp at d0 d1 c0 c1
      have ne1 : ¬ p = p2 := by omega
      by_cases he : sk.e = 0
      · obtain rfl : k = N := by omega
        have ecs : M.tCols s = d := by rw [HE.out.2.1, i1, Nat.sub_self]; simp [M.colsR]
        have hdl : d.length ≤ 1000 := by omega
        have hltz : ¬ (k : Int) < (k : Int) := by omega
        have hez : ((sk.e : Int) == 0) = true := by rw [beq_iff_eq]; omega
        obtain ⟨r, hr⟩ : ∃ r, M.right nm d = r := ⟨_, rfl⟩
        have HR := hid (show Calls Try.prog 11 #[.agg #[.string ⟨nm.toArray⟩, .slice a d.length cap]] wr (Tells wr (.int .i64 (r : Int))) by rw [← hr]; exact rright_any nm a cap d wr hcol hdl)
        have HZ := hid (show M.tErr s = r by unfold M.tErr; rw [es, if_neg (by simpa using he), ecs, HE.out.1]; exact hr)
        have HS := hid (And.intro ecs es)
        have HB2 := hid (fun (w' : World) (hA : Adds wr w') => And.intro (two_cells hA hHI.out.2.2.2) (kept hA hHI.out.2.2.2))
        clear hr es ecs i1 i2 i3 i4 i5 i6 i7 i8 hcol hnon hbig HI d0 d1 f0 f1 hlt hdl
        by_cases h0 : r = 0
        · subst h0
          have HN := hid (show M.tabN s = nm ∧ M.tabC s = d by unfold M.tabN M.tabC; rw [HZ.out, if_pos rfl, if_pos rfl, HS.out.1, HE.out.1]; exact ⟨rfl, rfl⟩)
          go_wp2_with (first
            | (go_at_call 11; refine HR.out.mono ?_; rintro e w5 ⟨rfl, hA⟩; obtain ⟨⟨d0, d1⟩, b5⟩ := HB2.out w5 hA; have f0 := frozen_of_row w5 p2 0 _ 24 b5; have f1 := frozen_of_row w5 p2 1 _ 24 b5; have C5 := hid (two_cells hA hHI.out.2.2.1); have c0' := C5.out.1; have c1' := C5.out.2; have A5 := hid hA; clear hA b5 c0 c1))
          refine bodyPost_ret (v := .tuple #[.agg #[.string ⟨nm.toArray⟩, .slice a d.length cap], .int .i64 0]) (by simp [results, Try.results23, go_sem, d0, d1]) rfl ⟨a, cap, ?_, ?_⟩
          · rw [HN.out.1, HN.out.2, HZ.out]; rfl
          · obtain ⟨e1, e2, e3⟩ := takeS_end (.string ⟨nm.toArray⟩) (.slice a d.length cap) HP2.out (by omega : p2 < B) hp hHI.out.1 hHI.out.2.1 A5.out HF.out.1 HF.out.2.2
            rw [HN.out.2, HS.out.2]
            exact ⟨e1, HF.out.2.1, e2, e3⟩
        · have HN := hid (show M.tabN s = [] ∧ M.tabC s = [] by unfold M.tabN M.tabC; rw [HZ.out, if_neg h0, if_neg h0]; exact ⟨rfl, rfl⟩)
          have hrz : ((r : Int) == 0) = false := by rw [beq_eq_false_iff_ne]; omega
          clear h0
          go_wp2_with (first
            | (go_at_call 11; refine HR.out.mono ?_; rintro e w5 ⟨rfl, hA⟩; obtain ⟨⟨d0, d1⟩, b5⟩ := HB2.out w5 hA; have f0 := frozen_of_row w5 p2 0 _ 24 b5; have f1 := frozen_of_row w5 p2 1 _ 24 b5; have A5 := hid hA; clear hA b5 c0 c1))
          refine bodyPost_ret (v := .tuple #[.agg #[.string ⟨#[]⟩, .slice none 0 0], .int .i64 (r : Int)]) (by simp [results, Try.results23, go_sem, d0, d1]) rfl ⟨none, 0, ?_, ?_⟩
          · rw [HN.out.1, HN.out.2, HZ.out]; rfl
          · obtain ⟨_, e2, e3⟩ := takeS_end (.string ⟨#[]⟩) (.slice none 0 0) HP2.out (by omega : p2 < B) hp hHI.out.1 hHI.out.2.1 A5.out HF.out.1 HF.out.2.2
            rw [HN.out.2, HS.out.2]
            exact ⟨ColAt.nil _ _, fun _ => rfl, e2, e3⟩
      · have HZ := hid (show M.tErr s = sk.e by unfold M.tErr; rw [es, if_pos he])
        have HN := hid (show M.tabN s = [] ∧ M.tabC s = [] by unfold M.tabN M.tabC; rw [HZ.out, if_neg he, if_neg he]; exact ⟨rfl, rfl⟩)
        have hez : ((sk.e : Int) == 0) = false := by rw [beq_eq_false_iff_ne]; omega
        have HS := hid es
        clear es i1 i2 i3 i4 i5 i6 i7 i8 hcol hnon hbig HI c0 c1 he hlt
        by_cases hkn : k < N
        · have hltz : (k : Int) < (N : Int) := by omega
          go_upto_region 12 with fail
          go_region
          go_wp2_with fail
          refine bodyPost_ret (v := .tuple #[.agg #[.string ⟨#[]⟩, .slice none 0 0], .int .i64 (sk.e : Int)]) (by simp [results, Try.results23, go_sem, d0, d1]) rfl ⟨none, 0, ?_, ?_⟩
          · rw [HN.out.1, HN.out.2, HZ.out]; rfl
          · obtain ⟨_, e2, e3⟩ := takeS_end (.string ⟨#[]⟩) (.slice none 0 0) HP2.out (by omega : p2 < B) hp hHI.out.1 hHI.out.2.1 (Touch.refl _ wr) HF.out.1 HF.out.2.2
            rw [HN.out.2, HS.out]
            exact ⟨ColAt.nil _ _, fun _ => rfl, e2.adds ((Touch.refl _ _).drew), e3.drew⟩
        · have hltz : ¬ (k : Int) < (N : Int) := by omega
          go_upto_region 12 with fail
          go_region
          go_wp2_with fail
          refine bodyPost_ret (v := .tuple #[.agg #[.string ⟨#[]⟩, .slice none 0 0], .int .i64 (sk.e : Int)]) (by simp [results, Try.results23, go_sem, d0, d1]) rfl ⟨none, 0, ?_, ?_⟩
          · rw [HN.out.1, HN.out.2, HZ.out]; rfl
          · obtain ⟨_, e2, e3⟩ := takeS_end (.string ⟨#[]⟩) (.slice none 0 0) HP2.out (by omega : p2 < B) hp hHI.out.1 hHI.out.2.1 (Touch.refl _ wr) HF.out.1 HF.out.2.2
            rw [HN.out.2, HS.out]
            exact ⟨ColAt.nil _ _, fun _ => rfl, e2.adds ((Touch.refl _ _).drew), e3.drew⟩
end Go.Proofs.Ytlgchdpajfmpdaa
