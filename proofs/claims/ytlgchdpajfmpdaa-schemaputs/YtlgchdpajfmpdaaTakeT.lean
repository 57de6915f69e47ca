/- A table that is taken. -/
import Derived.Test.YtlgchdpajfmpdaaPutT
import Derived.Test.YtlgchdpajfmpdaaRegion
import Derived.Maps.AppendAt
namespace Go.Proofs.Ytlgchdpajfmpdaa
open Go.RowKit

namespace M
/-- What is told of a table that is read. -/
def tabN (s : St) : List UInt8 := if tErr s = 0 then tName s else []
def tabC (s : St) : List Col := if tErr s = 0 then tCols s else []
end M
/-- A reader, while blocks behind it turn. -/
theorem RD.high {w w' : World} {T : Nat → Prop} {p : Nat} {s : M.St} (h : RD w (.pointer (some ⟨p, 0, none⟩)) s) (hT : Touch T w w') (hn : ∀ k, T k → p < k) : RD w' (.pointer (some ⟨p, 0, none⟩)) s := by
  rcases h with ⟨e, _⟩ | ⟨q, e, hb, hs⟩ | ⟨q, e, hR⟩
  · cases e
  · obtain rfl : p = q := by simpa using e
    exact .inr (.inl ⟨p, rfl, by rw [hT.block p (lt_of_heap hb) (fun c => absurd (hn p c) (Nat.lt_irrefl _))]; exact hb, hs⟩)
  · obtain rfl : p = q := by simpa using e
    obtain ⟨a, cap, hb, hL⟩ := hR.box
    refine .inr (.inr ⟨p, rfl, ⟨⟨a, cap, by rw [hT.block p (lt_of_heap hb) (fun c => absurd (hn p c) (Nat.lt_irrefl _))]; exact hb, ⟨hL.at_.block (fun b o ea hlt => hT.block b hlt (fun c => ?_)), hL.room, hL.non, hL.low⟩⟩, hR.good, hR.len, hR.err⟩⟩)
    have h1 : b < p := (hL.low _ ea).2
    have h2 := hn b c
    omega
theorem own_touch {w w' : World} {T : Nat → Prop} {base e size n : Nat} {v : Value} {xs : List Value} (h : w.ownsRow base e size v n xs) (hT : Touch T w w') (hn : ∀ k, T k → k < base) : w'.ownsRow base e size v n xs := by
  refine ⟨h.1, ?_⟩
  rcases h.2 with h | ⟨g, cap, cur, rfl, hb, hg, h3⟩
  · exact .inl h
  · exact .inr ⟨g, cap, cur, rfl, hb, by rw [hT.block g (lt_of_heap hg) (fun c => by have := hn g c; omega)]; exact hg, h3⟩
theorem own1 {p k : Nat} (h : Own1 (.pointer (some ⟨p, 0, none⟩)) k) : k = p := by
  simp only [Own1, Value.pointer.injEq, Option.some.injEq, Addr.mk.injEq] at h
  omega
theorem own_some {w : World} {base e size n : Nat} {v : Value} {xs : List Value} (h : w.ownsRow base e size v n xs) (hn : 0 < n) : ∃ g cap, v = .slice (some ⟨g, 0, none⟩) n cap ∧ base ≤ g := by
  rcases h.2 with ⟨_, e⟩ | ⟨g, cap, cur, rfl, hb, _⟩
  · omega
  · exact ⟨g, cap, rfl, hb⟩
theorem kept1 {w w' : World} {p g : Nat} {o : Obj} (hT : Touch (Own1 (.pointer (some ⟨p, 0, none⟩))) w w') (h : w.heap[g]? = some o) (hg : p < g) : w'.heap[g]? = some o := by
  rw [hT.block g (lt_of_heap h) (fun c => by have := own1 c; omega)]; exact h
theorem info51all : ∃ i, Try.prog.info? 51 = some i ∧ i.zero = some (.agg #[.string ⟨#[]⟩, .int .i64 0]) ∧ i.size = 2 ∧ i.bytes = 24 := by
  have h : (Try.prog.info? 51).map (fun i => (i.zero, i.size, i.bytes)) = some (some (.agg #[.string ⟨#[]⟩, .int .i64 0]), 2, 24) := by kernel_rfl
  cases hq : Try.prog.info? 51 with
  | none => rw [hq] at h; cases h
  | some i =>
    rw [hq] at h
    simp only [Option.map_some, Option.some.injEq, Prod.mk.injEq] at h
    exact ⟨i, rfl, h.1, h.2.1, h.2.2⟩
/-- One column more, behind columns of one's own. -/
theorem append_col {w : World} {base k g : Nat} {v : Value} {d : List M.Col} (ty : TypeId) (c : M.Col) (hown : w.ownsRow base 51 2 v k (SC d)) {fr : Nat × Nat} (hg : w.heap[g]? = some (.cells #[.string ⟨c.1.toArray⟩, .int .i64 c.2] 51 fr)) (hk : k ≤ 1000) (hb : base ≤ w.heap.size) :
    ∃ g' cap' w', (Builtin.append_ #[22, 22] ty #[v, .slice (some ⟨g, 0, none⟩) 1 1]).run Try.prog w = .ok (.slice (some ⟨g', 0, none⟩) (k + 1) cap') w' ∧ w'.ownsRow base 51 2 (.slice (some ⟨g', 0, none⟩) (k + 1) cap') (k + 1) (SC (d ++ [c])) ∧ w.grownBy w' v.ownBlock := by
  obtain ⟨i0, hi, hz0, hz1, hz2⟩ := info51all
  obtain ⟨v', w', h1, h2, h3, _⟩ := run_append_own_at w base 22 ty 51 i0 (.agg #[.string ⟨#[]⟩, .int .i64 0]) 2 24 Try.underlying22 hi hz0 hz1 hz2 rfl (by decide) v k (SC d) hown ⟨g, 0, none⟩ 1 1 (SC [c]) rfl (by
    intro j u hu
    rw [Addr.add_mid, Nat.zero_add, cellOf hg j]
    simpa [SC, cells2] using hu) (one_SC [c]) (by unfold maxLen; omega) (by omega) hb
  obtain ⟨g', cap', rfl, _⟩ := own_some h2 (by omega)
  exact ⟨g', cap', w', h1, by rw [SC_append]; exact h2, h3⟩
theorem text_z {p : Nat} {s : M.St} {w : World} {t : List UInt8} {s' : M.St} (ht : M.textR 20 s = (t, s')) (h : RD w (.pointer (some ⟨p, 0, none⟩)) s) : Calls Try.prog 39 #[.pointer (some ⟨p, 0, none⟩), .int .i64 20] w (PR w (.pointer (some ⟨p, 0, none⟩)) (.string ⟨t.toArray⟩) s') := by
  have := text_any 20 (by omega) h
  rw [ht] at this
  exact this
theorem uint_z {p : Nat} {s : M.St} {w : World} {n : Nat} {s' : M.St} (ht : M.uintR 8 s = (n, s')) (h : RD w (.pointer (some ⟨p, 0, none⟩)) s) : Calls Try.prog 40 #[.pointer (some ⟨p, 0, none⟩), .int .u64 8] w (PR w (.pointer (some ⟨p, 0, none⟩)) (.int .u64 (n : Int)) s') := by
  have := uint_any 8 h
  rw [ht] at this
  exact this
theorem byte_z {p : Nat} {s : M.St} {w : World} {n : Nat} {s' : M.St} (ht : M.fixedR 1 s = (n, s')) (h : RD w (.pointer (some ⟨p, 0, none⟩)) s) : Calls Try.prog 41 #[.pointer (some ⟨p, 0, none⟩)] w (PR w (.pointer (some ⟨p, 0, none⟩)) (.int .u8 (n : Int)) s') := by
  have := byte_any h
  rw [ht] at this
  exact this
/-- What Take leaves. -/
def PTakeT (w : World) (p : Nat) (s : M.St) (e : Ending) (w' : World) : Prop :=
  ∃ a cap, e = .returned (.tuple #[.agg #[.string ⟨(M.tabN s).toArray⟩, .slice a (M.tabC s).length cap], .int .i64 (M.tErr s : Int)]) ∧ Hid (ColAt w' a (M.tabC s) ∧ (a = none → cap = 0) ∧ RD w' (.pointer (some ⟨p, 0, none⟩)) (M.tSt s) ∧ Touch (Own1 (.pointer (some ⟨p, 0, none⟩))) w w')
/-- What holds ahead of each column. -/
def JTake (w : World) (p B p2 p4 : Nat) (nm : List UInt8) (N : Nat) (s2 : M.St) (k : Nat) (vv : Value) (d : List M.Col) (sk : M.St) (wr : World) : Prop :=
  M.colsR N s2 = (d ++ (M.colsR (N - k) sk).1, (M.colsR (N - k) sk).2) ∧ d.length = k ∧ wr.heap[p4]? = some (.cells #[.string ⟨nm.toArray⟩, vv] 24 (0, 0)) ∧ wr.ownsRow B 51 2 vv k (SC d) ∧ RD wr (.pointer (some ⟨p, 0, none⟩)) sk ∧ wr.heap[p2]? = some (.cells #[.string ⟨#[]⟩, .slice none 0 0] 24 (0, 0)) ∧ Touch (Own1 (.pointer (some ⟨p, 0, none⟩))) w wr ∧ B ≤ wr.heap.size
theorem own_cols {w : World} {base k : Nat} {v : Value} {d : List M.Col} (h : w.ownsRow base 51 2 v k (SC d)) (hd : d.length = k) : ∃ a cap, v = .slice a d.length cap ∧ ColAt w a d ∧ (a = none → cap = 0) ∧ (∀ b o, a = some ⟨b, o, none⟩ → base ≤ b) := by
  subst hd
  rcases h.2 with ⟨rfl, e⟩ | ⟨g, cap, cur, rfl, hb, _⟩
  · obtain rfl : d = [] := List.eq_nil_of_length_eq_zero e
    exact ⟨none, 0, rfl, ColAt.nil _ _, fun _ => rfl, fun b o e => by cases e⟩
  · refine ⟨_, cap, rfl, (CAt.own h).cols, fun e => (by cases e), fun b o e => ?_⟩
    obtain ⟨rfl, _⟩ : g = b ∧ 0 = o := by simpa using e
    exact hb
theorem jtake_next {w w1 w2 wr wb wc wd : World} {p B p2 p4 N k kb g' cap' : Nat} {nm tx : List UInt8} {s2 sk s4 : M.St} {vv : Value} {d : List M.Col} (hlt : k < N) (hp4 : p < p4) (HP : w.heap.size = p2 ∧ w1.heap.size = p4 ∧ w2.heap.size = B) (hs : p2 + 1 ≤ p4 ∧ p4 + 1 ≤ B) (hp : p < p2)
    (HI : JTake w p B p2 p4 nm N s2 k vv d sk wr) (HC : M.colR sk = ((tx, (kb : Int)), s4)) (T2 : Touch (Own1 (.pointer (some ⟨p, 0, none⟩))) wr wb) (R2 : RD wb (.pointer (some ⟨p, 0, none⟩)) s4) (A3 : Adds wb wc) (TD : Touch (fun j => B ≤ j) wc wd) (B4 : wd.heap[p4]? = some (.cells #[.string ⟨nm.toArray⟩, vv] 24 (0, 0)))
    (PD : wd.ownsRow B 51 2 (.slice (some ⟨g', 0, none⟩) (k + 1) cap') (k + 1) (SC (d ++ [(tx, (kb : Int))]))) : JTake w p B p2 p4 nm N s2 (k + 1) (.slice (some ⟨g', 0, none⟩) (k + 1) cap') (d ++ [(tx, (kb : Int))]) s4 (wd.setCell ⟨p4, 1, none⟩ (.slice (some ⟨g', 0, none⟩) (k + 1) cap')) := by
  obtain ⟨i1, i2, i3, i4, i5, i6, i7, i8⟩ := HI
  have TS : Touch (fun j => j = p4) wd (wd.setCell ⟨p4, 1, none⟩ (.slice (some ⟨g', 0, none⟩) (k + 1) cap')) := (Touch.refl (fun j => j = p4) wd).setCell (p := ⟨p4, 1, none⟩) (fun _ => rfl) _
  have hlt2 : p2 < wr.heap.size := lt_of_heap i6
  refine ⟨?_, by simp [i2], ?_, ?_, ?_, ?_, ?_, ?_⟩
  · have := M.colsR_step i1 hlt
    rw [HC] at this; exact this
  · rw [heap_setCell_same wd p4 1 _ 24 _ B4]; rfl
  · exact own_touch PD TS (fun j hj => by omega)
  · exact ((R2.adds A3).high TD (fun j hj => by omega)).high TS (fun j hj => by omega)
  · have e1 := kept1 T2 i6 hp
    have e2 := kept A3 e1
    rw [TS.block p2 (by have := lt_of_heap e2; have := TD.size; omega) (by omega), TD.block p2 (lt_of_heap e2) (by omega)]
    exact e2
  · have t1 : Touch (Own1 (.pointer (some ⟨p, 0, none⟩))) w wc := (i7.trans T2).trans (A3.mono (fun _ _ c => c.elim))
    exact (t1.then TD (fun j hj hb => by omega)).then TS (fun j hj hb => by omega)
  · have := T2.size; have := A3.size; have := TD.size; have := TS.size; omega
theorem take_end {w wr wx : World} {p p2 B : Nat} {sk : M.St} {a : Option Addr} {d : List M.Col} (x y : Value) (hp2 : w.heap.size = p2) (hB : p2 < B) (hp : p < p2) (hR : RD wr (.pointer (some ⟨p, 0, none⟩)) sk) (hT : Touch (Own1 (.pointer (some ⟨p, 0, none⟩))) w wr) (hA : Adds wr wx) (hC : ColAt wr a d) (hb : ∀ b o, a = some ⟨b, o, none⟩ → B ≤ b) :
    ColAt ((wx.setCell ⟨p2, 0, none⟩ x).setCell ⟨p2, 1, none⟩ y) a d ∧ RD ((wx.setCell ⟨p2, 0, none⟩ x).setCell ⟨p2, 1, none⟩ y) (.pointer (some ⟨p, 0, none⟩)) sk ∧ Touch (Own1 (.pointer (some ⟨p, 0, none⟩))) w ((wx.setCell ⟨p2, 0, none⟩ x).setCell ⟨p2, 1, none⟩ y) := by
  have TS : Touch (fun j => j = p2) wx ((wx.setCell ⟨p2, 0, none⟩ x).setCell ⟨p2, 1, none⟩ y) := ((Touch.refl (fun j => j = p2) wx).setCell (p := ⟨p2, 0, none⟩) (fun _ => rfl) _).setCell (p := ⟨p2, 1, none⟩) (fun _ => rfl) _
  refine ⟨(hC.adds hA).block (fun b o e hlt => TS.block b hlt (fun c => by have := hb b o e; omega)), (hR.adds hA).high TS (fun j hj => by omega), ?_⟩
  exact (hT.trans (hA.mono (fun _ _ c => c.elim))).then TS (fun j hj hb => by omega)
set_option maxRecDepth 100000 in
set_option maxHeartbeats 4000000 in
theorem takeT_any (p : Nat) (s : M.St) (w : World) (hR : RD w (.pointer (some ⟨p, 0, none⟩)) s) : Calls Try.prog 22 #[.pointer (some ⟨p, 0, none⟩)] w (PTakeT w p s) := by
  have hp : p < w.heap.size := hR.lt
  obtain ⟨⟨nm, s1⟩, h1⟩ : ∃ x, M.textR 20 s = x := ⟨_, rfl⟩
  obtain ⟨⟨N, s2⟩, h2⟩ : ∃ x, M.uintR 8 s1 = x := ⟨_, rfl⟩
  have hN : N ≤ 8 := by have := (M.uintR_lt 8 s1).2; rw [h2] at this; exact this
  have eN : M.tName s = nm := by unfold M.tName; rw [h1]
  have eC : M.tCols s = (M.colsR N s2).1 := by unfold M.tCols M.tN; rw [h1]; simp only; rw [h2]
  have eS : M.tSt s = (M.colsR N s2).2 := by unfold M.tSt M.tN; rw [h1]; simp only; rw [h2]
  have HE := hid (And.intro eN (And.intro eC eS))
  have A0 := hid (show Adds w (w.alloc (.cells #[.string ⟨#[]⟩, .slice none 0 0] 24)) from (Touch.refl _ w).alloc _)
  have H2 := hid (heap_alloc_new w (.cells #[.string ⟨#[]⟩, .slice none 0 0] 24))
  have HT := hid (text_z h1 (hR.adds A0.out))
  have HU := hid (fun w' h => uint_z (p := p) (w := w') h2 h)
  clear hR h1 h2 eN eC eS
  go_enter Try.func22, Try.ntmps22
  go_wp2_with (first
    | (go_at_call 39; refine HT.out.mono ?_; rintro e w1 ⟨rfl, h1, h2⟩; have R1 := hid h1; have T1 := hid h2; clear h1 h2)
    | (go_at_call 40; refine (HU.out (w1.alloc (.cells #[.string ⟨nm.toArray⟩, .slice none 0 0] 24)) (R1.out.adds ((Touch.refl _ w1).alloc _))).mono ?_; rintro e w2 ⟨rfl, h1, h2⟩; have R2 := hid h1; have T2 := hid h2; clear h1 h2))
  have hs1 : w.heap.size + 1 ≤ w1.heap.size := by have := T1.out.size; simpa using this
  have hs2 : w1.heap.size + 1 ≤ w2.heap.size := by have := T2.out.size; simpa using this
  have K4 := hid (kept1 T2.out (heap_alloc_new w1 (.cells #[.string ⟨nm.toArray⟩, .slice none 0 0] 24)) (by omega))
  have K2 := hid (kept1 T2.out (kept ((Touch.refl _ w1).alloc (.cells #[.string ⟨nm.toArray⟩, .slice none 0 0] 24)) (kept1 T1.out H2.out hp)) hp)
  have T0 := hid (show Touch (Own1 (.pointer (some ⟨p, 0, none⟩))) w w2 from Touch.trans (Touch.trans (A0.out.mono (fun _ _ c => c.elim)) T1.out) (Touch.trans ((Touch.refl _ w1).alloc _) T2.out))
  go_loopw [12] (fun iv wr => ∃ (k : Nat) (vv : Value) (d : List M.Col) (sk : M.St), iv = .int .u64 (k : Int) ∧ k ≤ N ∧ Hid (JTake w p w2.heap.size w.heap.size w1.heap.size nm N s2 k vv d sk wr)) (fun iv _ => N - (intOf iv).toNat)
  case atStart => exact ⟨0, .slice none 0 0, [], s2, rfl, Nat.zero_le _, by simp, rfl, K4.out, World.ownsRow_nil _ _ _ _, R2.out, K2.out, T0.out, Nat.le_refl _⟩
  case round =>
    obtain ⟨k, vv, d, sk, rfl, hk, HI⟩ := hrel
    clear R1 T1 R2 T2 K4 K2 T0 H2 HT HU A0
    generalize hp2 : w.heap.size = p2 at *
    generalize hp4 : w1.heap.size = p4 at *
    generalize hB : w2.heap.size = B at *
    have HP := hid (And.intro hp2 (And.intro hp4 hB))
    clear hp2 hp4 hB
    by_cases hlt : k < N
    · have hltz : (k : Int) < (N : Int) := by omega
      obtain ⟨⟨tx, s3⟩, e3⟩ : ∃ x, M.textR 20 sk = x := ⟨_, rfl⟩
      obtain ⟨⟨kb, s4⟩, e4⟩ : ∃ x, M.fixedR 1 s3 = x := ⟨_, rfl⟩
      have hkb : kb < 256 := by have := M.fixedR_byte s3; rw [e4] at this; exact this
      have HC := hid (show M.colR sk = ((tx, (kb : Int)), s4) by unfold M.colR; rw [e3]; simp only; rw [e4])
      have HTX := hid (fun w' h => text_z (p := p) (w := w') e3 h)
      have HBY := hid (fun w' h => byte_z (p := p) (w := w') e4 h)
      clear e3 e4
      have cv : wr.cell? ⟨p4, 1, none⟩ = some vv := by have := cellOf HI.out.2.2.1 1; simpa using this
      go_upto_region 4 with fail
      refine E_begin (S := fun w' => w'.cell? ⟨p4, 1, none⟩ = some vv) (X := 11) (by kernel_rfl) ?_
      have hS : wr.drew.cell? ⟨p4, 1, none⟩ = some vv := cv
      refine E_put (i := 0) 14 (v := .pointer (some ⟨p4, 1, none⟩)) rfl rfl (by kernel_rfl) (by kernel_rfl) (by kernel_rfl) (by kernel_rfl) (fun _ _ _ h => h) (Or.inl ⟨by rfl, fun w' hw' => ?_⟩) hS ?_
      · go_simp
      simp only [Act.put, List.setIfInBounds_toArray, List.set_cons_zero, List.set_cons_succ]
      refine E_put (i := 1) 15 (v := vv) rfl rfl (by kernel_rfl) (by kernel_rfl) (by kernel_rfl) (by kernel_rfl) (fun _ _ _ h => h) (Or.inl ⟨by rfl, fun w' hw' => ?_⟩) hS ?_
      · go_simp
      simp only [Act.put, List.setIfInBounds_toArray, List.set_cons_zero, List.set_cons_succ]
      refine E_put (i := 2) 16 (v := .pointer (some ⟨p, 0, none⟩)) rfl rfl (by kernel_rfl) (by kernel_rfl) (by kernel_rfl) (by kernel_rfl) (fun _ _ _ h => h) (Or.inl ⟨by rfl, fun w' hw' => ?_⟩) hS ?_
      · go_simp
      simp only [Act.put, List.setIfInBounds_toArray, List.set_cons_zero, List.set_cons_succ]
      refine E_put (i := 4) 18 (v := .pointer (some ⟨p, 0, none⟩)) rfl rfl (by kernel_rfl) (by kernel_rfl) (by kernel_rfl) (by kernel_rfl) (fun _ _ _ h => h) (Or.inl ⟨by rfl, fun w' hw' => ?_⟩) hS ?_
      · go_simp
      simp only [Act.put, List.setIfInBounds_toArray, List.set_cons_zero, List.set_cons_succ]
      refine E_call (i := 3) 17 39 #[.pointer (some ⟨p, 0, none⟩), .int .i64 20] (R := PR wr.drew (.pointer (some ⟨p, 0, none⟩)) (.string ⟨tx.toArray⟩) s3) (by kernel_rfl) rfl rfl (by rfl) (by go_simp) ?_ ?_
      · exact HTX.out _ (HI.out.2.2.2.2.1.adds ((Touch.refl _ wr).drew))
      rintro e wa ⟨rfl, r1, t1⟩
      have T1 := hid (show Touch (Own1 (.pointer (some ⟨p, 0, none⟩))) wr wa from Touch.trans ((Touch.refl _ wr).drew) t1)
      have R1 := hid r1
      have hp4 : p < p4 := by have := HP.out; omega
      have B1 := hid (kept1 T1.out HI.out.2.2.1 hp4)
      have hSa : wa.cell? ⟨p4, 1, none⟩ = some vv := by have := cellOf B1.out 1; simpa using this
      refine ⟨_, rfl, hSa, ?_⟩
      clear hS r1 t1
      simp only [Act.put, List.setIfInBounds_toArray, List.set_cons_zero, List.set_cons_succ]
      refine E_call (i := 5) 19 41 #[.pointer (some ⟨p, 0, none⟩)] (R := PR wa (.pointer (some ⟨p, 0, none⟩)) (.int .u8 (kb : Int)) s4) (by kernel_rfl) rfl rfl (by rfl) (by go_simp) ?_ ?_
      · exact HBY.out _ R1.out
      rintro e wb ⟨rfl, r2, t2⟩
      have T2 := hid (show Touch (Own1 (.pointer (some ⟨p, 0, none⟩))) wr wb from Touch.trans T1.out t2)
      have R2 := hid r2
      have B2 := hid (kept1 T2.out HI.out.2.2.1 hp4)
      have hSb : wb.cell? ⟨p4, 1, none⟩ = some vv := by have := cellOf B2.out 1; simpa using this
      refine ⟨_, rfl, hSb, ?_⟩
      clear hSa r2 t2 T1 R1 B1
      simp only [Act.put, List.setIfInBounds_toArray, List.set_cons_zero, List.set_cons_succ]
      refine E_put (i := 6) 20 (v := .int .i64 (kb : Int)) rfl rfl (by kernel_rfl) (by kernel_rfl) (by kernel_rfl) (by kernel_rfl) (fun _ _ _ h => h) (Or.inl ⟨by rfl, fun w' hw' => ?_⟩) hSb ?_
      · have hwr : IntKind.i64.wrap (kb : Int) = (kb : Int) := by rw [IntKind.wrap_i64]; omega
        go_simp
      simp only [Act.put, List.setIfInBounds_toArray, List.set_cons_zero, List.set_cons_succ]
      refine E_put (i := 7) 21 (v := .agg #[.string ⟨tx.toArray⟩, .int .i64 (kb : Int)]) rfl rfl (by kernel_rfl) (by kernel_rfl) (by kernel_rfl) (by kernel_rfl) (fun _ _ _ h => h) (Or.inl ⟨by rfl, fun w' hw' => ?_⟩) hSb ?_
      · go_simp
      simp only [Act.put, List.setIfInBounds_toArray, List.set_cons_zero, List.set_cons_succ]
      have A3 := hid (show Adds wb (wb.alloc (.cells #[.string ⟨tx.toArray⟩, .int .i64 (kb : Int)] 51)) from (Touch.refl _ wb).alloc _)
      have G3 := hid (heap_alloc_new wb (.cells #[.string ⟨tx.toArray⟩, .int .i64 (kb : Int)] 51))
      have B3 := hid (kept A3.out B2.out)
      have hSc : (wb.alloc (.cells #[.string ⟨tx.toArray⟩, .int .i64 (kb : Int)] 51)).cell? ⟨p4, 1, none⟩ = some vv := by have := cellOf B3.out 1; simpa using this
      refine E_value (i := 8) 22 (v := .slice (some ⟨wb.heap.size, 0, none⟩) 1 1) (w' := wb.alloc (.cells #[.string ⟨tx.toArray⟩, .int .i64 (kb : Int)] 51)) (by kernel_rfl) rfl rfl (by rfl) (by go_simp) hSc ?_
      simp only [Act.put, List.setIfInBounds_toArray, List.set_cons_zero, List.set_cons_succ]
      have O3 := hid (own_keep (own_touch HI.out.2.2.2.1 T2.out (fun j hj => by have := own1 hj; have := HP.out; omega)) A3.out)
      obtain ⟨g', cap', wd, hrun, hown, hgrow⟩ := append_col 22 (tx, (kb : Int)) O3.out G3.out (by omega) (Nat.le_trans HI.out.2.2.2.2.2.2.2 (Nat.le_trans T2.out.size A3.out.size))
      have TD := hid (show Touch (fun j => B ≤ j) (wb.alloc (.cells #[.string ⟨tx.toArray⟩, .int .i64 (kb : Int)] 51)) wd from Touch.grown (T := fun j => B ≤ j) (Touch.refl _ _) hgrow (fun j hj _ => (O3.out.lt j hj).1))
      have B4 := hid (show wd.heap[p4]? = some (.cells #[.string ⟨nm.toArray⟩, vv] 24 (0, 0)) by rw [TD.out.block p4 (lt_of_heap B3.out) (fun c => by have := HP.out; omega)]; exact B3.out)
      have hSd : wd.cell? ⟨p4, 1, none⟩ = some vv := by have := cellOf B4.out 1; simpa using this
      refine E_value (i := 9) 23 (v := .slice (some ⟨g', 0, none⟩) (k + 1) cap') (w' := wd) (by kernel_rfl) rfl rfl (by rfl) (by simp [execOp, resolve, invoke, builtin, Act.eval, hrun, Result.andThen]) hSd ?_
      simp only [Act.put, List.setIfInBounds_toArray, List.set_cons_zero, List.set_cons_succ]
      refine E_put (i := 10) 24 (v := .pointer (some ⟨p4, 1, none⟩)) rfl rfl (by kernel_rfl) (by kernel_rfl) (by kernel_rfl) (by kernel_rfl) (fun _ _ _ h => h) (Or.inl ⟨by rfl, fun w' hw' => ?_⟩) hSd ?_
      · go_simp
      simp only [Act.put, List.setIfInBounds_toArray, List.set_cons_zero, List.set_cons_succ]
      have PD := hid (And.intro hown hgrow)
      have hfr : wd.frozen? ⟨p4, 1, none⟩ = false := frozen_of_row wd p4 1 _ 24 B4.out
      clear hrun hown hgrow hSc
      refine E_do (i := 11) none (by kernel_rfl) rfl rfl rfl (fun K hK => ?_)
      go_simp
      refine hK undef _ (fun c => absurd rfl c) ?_
      clear hK K
      simp only [Act.put]
      refine E_done (by kernel_rfl) ?_ _
      have JN := hid (jtake_next hlt hp4 HP.out ⟨hs1, hs2⟩ hp HI.out HC.out T2.out R2.out A3.out TD.out B4.out PD.out.1)
      clear HI HC T2 R2 A3 TD B4 PD O3 G3 B2 B3 HTX HBY
      go_wp2_with fail
      go_roundw
      case rel => exact ⟨k + 1, _, _, _, by go_num, by omega, JN.out⟩
      case measure => simp [intOf]; omega
    · have hltz : ¬ (k : Int) < (N : Int) := by omega
      obtain rfl : k = N := by omega
      obtain ⟨i1, i2, i3, i4, i5, i6, i7, i8⟩ := HI.out
      rw [Nat.sub_self] at i1
      have ec : M.tCols s = d := by rw [HE.out.2.1, i1]; simp [M.colsR]
      have es : M.tSt s = sk := by rw [HE.out.2.2, i1]; rfl
      obtain ⟨a, cap, rfl, hcol, hnon, hbig⟩ := own_cols i4 i2
      have hdl : d.length ≤ 1000 := by omega
      have HR := hid (right_any nm a cap d wr hcol hdl)
      have HF := hid (And.intro hcol (And.intro hnon hbig))
      have HQ := hid (And.intro i5 (And.intro i7 (And.intro i3 i6)))
      have c0 := cellOf i3 0
      have c1 := cellOf i3 1
      have d0 := cellOf i6 0
      have d1 := cellOf i6 1
      have f0 := frozen_of_row wr p2 0 _ 24 i6
      have f1 := frozen_of_row wr p2 1 _ 24 i6
      simp at c0 c1 d0 d1
      have hz : M.tErr s = if sk.e ≠ 0 then sk.e else M.right nm d := by unfold M.tErr; rw [es, ec, HE.out.1]
      have HS := hid (And.intro ec es)
      clear ec es i1 i2 i3 i4 i5 i6 i7 i8 hcol hnon hbig HI
      by_cases he : sk.e = 0
      · have hez : ((sk.e : Int) == 0) = true := by rw [beq_iff_eq]; omega
        obtain ⟨r, hr⟩ : ∃ r, M.right nm d = r := ⟨_, rfl⟩
        rw [hr] at HR hz
        have HZ := hid (show M.tErr s = r by rw [hz, if_neg (by simpa using he)])
        have HB2 := hid (fun (w' : World) (hA : Adds wr w') => And.intro (two_cells hA HQ.out.2.2.2) (kept hA HQ.out.2.2.2))
        clear hz hr d0 d1 f0 f1
        by_cases h0 : r = 0
        · subst h0
          have HN := hid (show M.tabN s = nm ∧ M.tabC s = d by unfold M.tabN M.tabC; rw [HZ.out, if_pos rfl, if_pos rfl, HS.out.1, HE.out.1]; exact ⟨rfl, rfl⟩)
          have hre : ((0 : Nat) : Int) = 0 := rfl
          go_wp2_with (first
            | (go_at_call 42; refine (err_any HQ.out.1).mono ?_; rintro e w' ⟨rfl, hw⟩; obtain rfl := hw.symm)
            | (go_at_call 10; refine HR.out.mono ?_; rintro e w5 ⟨rfl, hA⟩; obtain ⟨⟨d0, d1⟩, b5⟩ := HB2.out w5 hA; have f0 := frozen_of_row w5 p2 0 _ 24 b5; have f1 := frozen_of_row w5 p2 1 _ 24 b5; have C5 := hid (two_cells hA HQ.out.2.2.1); have c0' := C5.out.1; have c1' := C5.out.2; have A5 := hid hA; clear hA b5 c0 c1))
          refine bodyPost_ret (v := .tuple #[.agg #[.string ⟨nm.toArray⟩, .slice a d.length cap], .int .i64 0]) (by simp [results, Try.results22, go_sem, d0, d1]) rfl ⟨a, cap, ?_, ?_⟩
          · rw [HN.out.1, HN.out.2, HZ.out]; rfl
          · obtain ⟨e1, e2, e3⟩ := take_end (.string ⟨nm.toArray⟩) (.slice a d.length cap) HP.out.1 (by omega : p2 < B) hp HQ.out.1 HQ.out.2.1 A5.out HF.out.1 HF.out.2.2
            rw [HN.out.2, HS.out.2]
            exact ⟨e1, HF.out.2.1, e2, e3⟩
        · have HN := hid (show M.tabN s = [] ∧ M.tabC s = [] by unfold M.tabN M.tabC; rw [HZ.out, if_neg h0, if_neg h0]; exact ⟨rfl, rfl⟩)
          have hrz : ((r : Int) == 0) = false := by rw [beq_eq_false_iff_ne]; omega
          clear h0
          go_wp2_with (first
            | (go_at_call 42; refine (err_any HQ.out.1).mono ?_; rintro e w' ⟨rfl, hw⟩; obtain rfl := hw.symm)
            | (go_at_call 10; refine HR.out.mono ?_; rintro e w5 ⟨rfl, hA⟩; obtain ⟨⟨d0, d1⟩, b5⟩ := HB2.out w5 hA; have f0 := frozen_of_row w5 p2 0 _ 24 b5; have f1 := frozen_of_row w5 p2 1 _ 24 b5; have A5 := hid hA; clear hA b5 c0 c1))
          refine bodyPost_ret (v := .tuple #[.agg #[.string ⟨#[]⟩, .slice none 0 0], .int .i64 (r : Int)]) (by simp [results, Try.results22, go_sem, d0, d1]) rfl ⟨none, 0, ?_, ?_⟩
          · rw [HN.out.1, HN.out.2, HZ.out]; rfl
          · obtain ⟨_, e2, e3⟩ := take_end (.string ⟨#[]⟩) (.slice none 0 0) HP.out.1 (by omega : p2 < B) hp HQ.out.1 HQ.out.2.1 A5.out HF.out.1 HF.out.2.2
            rw [HN.out.2, HS.out.2]
            exact ⟨ColAt.nil _ _, fun _ => rfl, e2, e3⟩
      · have HZ := hid (show M.tErr s = sk.e by rw [hz, if_pos he])
        have HN := hid (show M.tabN s = [] ∧ M.tabC s = [] by unfold M.tabN M.tabC; rw [HZ.out, if_neg he, if_neg he]; exact ⟨rfl, rfl⟩)
        have hez : ((sk.e : Int) == 0) = false := by rw [beq_eq_false_iff_ne]; omega
        clear hz he c0 c1
        go_wp2_with (first | (go_at_call 42; refine (err_any HQ.out.1).mono ?_; rintro e w' ⟨rfl, hw⟩; obtain rfl := hw.symm))
        refine bodyPost_ret (v := .tuple #[.agg #[.string ⟨#[]⟩, .slice none 0 0], .int .i64 (sk.e : Int)]) (by simp [results, Try.results22, go_sem, d0, d1]) rfl ⟨none, 0, ?_, ?_⟩
        · rw [HN.out.1, HN.out.2, HZ.out]; rfl
        · obtain ⟨_, e2, e3⟩ := take_end (.string ⟨#[]⟩) (.slice none 0 0) HP.out.1 (by omega : p2 < B) hp HQ.out.1 HQ.out.2.1 (Touch.refl _ wr) HF.out.1 HF.out.2.2
          rw [HN.out.2, HS.out.2]
          exact ⟨ColAt.nil _ _, fun _ => rfl, e2, e3⟩
end Go.Proofs.Ytlgchdpajfmpdaa
