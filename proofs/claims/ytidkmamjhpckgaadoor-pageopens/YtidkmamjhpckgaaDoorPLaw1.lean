/- The law's own: cells alike, the chapter's example, a page made of cells. -/
import Derived.Test.YtidkmamjhpckgaaDoorPCalls2
import Derived.Deep.RegionWith
import Derived.Lib.SlBytesConst
namespace Go.Proofs.YtidkmamjhpckgaaDoor
open Go.RowKit

set_option maxRecDepth 100000 in
theorem take_eq_next {β : Type} {x y : List β} {k : Nat} {a : β} (h : x.take k = y.take k) (hx : x[k]? = some a) (hy : y[k]? = some a) : x.take (k + 1) = y.take (k + 1) := by
  rw [List.take_add_one, List.take_add_one, h, hx, hy]
/-- A page: where it lies. -/
def Pag (w : World) (a : Option Addr) (cap : Nat) (bs : List UInt8) : Prop := At w a bs ∧ bs.length = 256 ∧ 256 ≤ cap ∧ (a = none → cap = 0)
theorem Pag.adds {w w' : World} {a : Option Addr} {cap : Nat} {bs : List UInt8} (h : Pag w a cap bs) (hA : Adds w w') : Pag w' a cap bs := ⟨h.1.adds hA, h.2⟩
def PPag (w : World) (bs : List UInt8) (e : Ending) (w' : World) : Prop := ∃ a cap, e = .returned (.tuple #[.slice a 256 cap, .int .i64 0]) ∧ Hid (Pag w' a cap bs ∧ Adds w w')
set_option maxRecDepth 100000 in
theorem PTold.pag {w w' : World} {cs bs : List UInt8} {er : Nat} {e : Ending} (h : PTold w cs er e w') (h1 : cs = bs) (h2 : er = 0) (h3 : bs.length = 256) : PPag w bs e w' := by
  obtain ⟨a, cap, he, H⟩ := h
  subst h1
  subst h2
  rw [h3] at he H
  exact ⟨a, cap, he, ⟨H.out.1, h3, H.out.2.1, H.out.2.2.1.1⟩, H.out.2.2.2⟩
set_option maxRecDepth 100000 in
theorem At.two (w : World) (c d : UInt8) : At (w.alloc (.cells #[.int .u8 (c.toNat : Int), .int .u8 (d.toNat : Int)] 5 (2, 3))) (some ⟨w.heap.size, 0, none⟩) [c, d] := by
  intro j x hj
  refine ⟨_, _, rfl, ?_⟩
  rw [cell_of_row _ _ _ _ _ _ (heap_alloc_new w _)]
  match j, hj with
  | 0, hj => obtain rfl : c = x := Option.some.inj hj; rfl
  | 1, hj => obtain rfl : d = x := Option.some.inj hj; rfl
  | j + 2, hj => simp at hj
theorem ok70 : (⟨7, 1, []⟩ : M.Pg).Ok := ⟨by decide, by decide, by decide⟩
theorem ok71 : (⟨7, 1, [[97, 98]]⟩ : M.Pg).Ok := ⟨by decide, by decide, by decide⟩
set_option maxRecDepth 100000 in
set_option maxHeartbeats 1000000 in
theorem works9 (w : World) : Calls Tryd.prog 10 #[] w (Adding (.bool true) w) := by
  obtain ⟨P0, hP0⟩ : ∃ P0, P0 = M.pbytes ⟨7, 1, []⟩ := ⟨_, rfl⟩
  obtain ⟨Q0, hQ0⟩ : ∃ Q0, Q0 = M.pbytes ⟨7, 1, [[97, 98]]⟩ := ⟨_, rfl⟩
  have l0 : P0.length = 256 := by rw [hP0]; exact M.len_pbytes ok70.room
  have l1 : Q0.length = 256 := by rw [hQ0]; exact M.len_pbytes ok71.room
  have HP3 := hid (show P0[3]? = some 7 by rw [hP0]; rfl)
  have HF0 := hid (show M.freeP P0 = 242 by rw [hP0, M.free_put ok70]; rfl)
  have HF1 := hid (show M.freeP Q0 = 238 by rw [hQ0, M.free_put ok71]; rfl)
  have HQ := hid (show Q0.take 12 = [0, 0, 0, 7, 1, 1, 0, 2, 0, 2, 97, 98] by rw [hQ0]; rfl)
  have HN := hid (show Calls Tryd.prog 22 #[.int .i64 7, .int .u8 1] w (PPag w P0) from (gnew_any 7 1 w).mono (fun e w' h => h.pag (by rw [hP0]; exact (M.fill_ok ok70).1) (M.fill_ok ok70).2 l0))
  have HI := hid (fun w1 a cap ba (h : Pag w1 a cap P0) (hb : At w1 ba [97, 98]) => show Calls Tryd.prog 23 #[.slice a 256 cap, .int .i64 0, .slice ba 2 2] w1 (PPag w1 Q0) from
    (ginsert_any a P0 256 cap 0 ba [97, 98] 2 2 w1 l0 h.2.2.1 h.1 rfl (by decide) (fun e => by subst e; obtain ⟨_, _, c, _⟩ := hb 0 97 rfl; cases c) hb).mono (fun e w' q => q.pag (by rw [hP0, hQ0]; exact (M.ins_ok ok70 (i := 0) (by decide) (b := [97, 98]) (by decide)).1) (by rw [hP0]; exact (M.ins_ok ok70 (i := 0) (by decide) (b := [97, 98]) (by decide)).2) l1))
  have HFr := hid (fun w1 a cap (h : Pag w1 a cap P0) => show Calls Tryd.prog 24 #[.slice a 256 cap] w1 (Adding (.int .i64 242) w1) by have q := gfree_any a P0 256 cap w1 l0 h.2.2.1 h.1; rw [HF0.out] at q; exact q)
  have HFq := hid (fun w1 a cap (h : Pag w1 a cap Q0) => show Calls Tryd.prog 24 #[.slice a 256 cap] w1 (Adding (.int .i64 238) w1) by have q := gfree_any a Q0 256 cap w1 l1 h.2.2.1 h.1; rw [HF1.out] at q; exact q)
  have hcc := fun w => Lib.run_convert_bytes_const (P := Tryd.prog) w 22 5 #[.int .u8 97, .int .u8 98] 2 2 Tryd.underlying22 Tryd.underlying5
  clear hP0 hQ0 l0 l1
  go_enter Tryd.func10, Tryd.ntmps10
  go_wp2_with (first
    | (go_at_call 22; refine HN.out.mono ?_; rintro e w1 ⟨pa, pc, rfl, H1⟩; obtain ⟨pb, po, hpa⟩ := H1.out.1.1.ad (by rw [H1.out.1.2.1]; decide); subst hpa)
    | (go_at_call 23; refine (HI.out _ _ _ _ (H1.out.1.adds ((Touch.refl _ w1).alloc _)) (At.two w1 97 98)).mono ?_; rintro e w2 ⟨qa, qc, rfl, H2⟩
       have A2 := hid ((Touch.refl (fun _ => False) w1).alloc (.cells #[.int .u8 97, .int .u8 98] 5 (2, 3)) |>.trans H2.out.2)
       have c3 : w2.cell? ⟨pb, po + 3, none⟩ = some (.int .u8 7) := by (obtain ⟨b', o', e', hc'⟩ := (H1.out.1.1.adds A2.out) 3 7 HP3.out; cases e'; exact hc')
       have hcap := H1.out.1.2.2.1
       have hqc := H2.out.1.2.2.1
       have hsq : ∀ w', (Instr.sliceAt 22 (.slice qa 256 qc) none (some (.int .i64 12)) none).run Tryd.prog w' = .ok (.slice qa 12 qc) w' := fun w' => run_pre qa 256 qc 12 (by omega) w')
    | (go_at_call 24; refine (HFq.out w3 _ _ (H2.out.1.adds A3.out)).mono ?_; rintro e w4 ⟨rfl, hA4⟩; have A4 := hid hA4; clear hA4)
    | (go_at_call 24; refine (HFr.out w2 _ _ (H1.out.1.adds A2.out)).mono ?_; rintro e w3 ⟨rfl, hA3⟩; have A3 := hid hA3; clear hA3
       have hcv : (convert 22 9 (.slice qa 12 qc)).run Tryd.prog w3 = .ok (.string ⟨#[0, 0, 0, 7, 1, 1, 0, 2, 0, 2, 97, 98]⟩) w3 := by (have q := conv_at w3 qa (Q0.take 12) qc ((H2.out.1.1.adds A3.out).pre 12); rw [HQ.out] at q; exact q)))
  go_ret
  exact ⟨rfl, ((H1.out.2.trans A2.out).trans A3.out).trans A4.out⟩
end Go.Proofs.YtidkmamjhpckgaaDoor
