/- A page made of cells, one by one. -/
import Derived.Test.YtidkmamjhpckgaaDoorPLaw1
namespace Go.Proofs.YtidkmamjhpckgaaDoor
open Go.RowKit

/-- A page that is made of cells. -/
def PMade (w : World) (bs : List UInt8) (e : Ending) (w' : World) : Prop := ∃ a cap, e = .returned (.slice a 256 cap) ∧ Hid (Pag w' a cap bs ∧ Adds w w')
set_option maxRecDepth 100000 in
theorem made_put {cs : List (List UInt8)} (h : M.taken cs ≤ 244) (b : List UInt8) (hb : ¬ 244 < M.taken cs + (2 + b.length)) : M.chgP (M.pbytes (M.made cs)) (cs.length : Int) 0 [b] = M.pbytes (M.made (cs ++ [b])) ∧ M.chgE (M.pbytes (M.made cs)) (cs.length : Int) 0 [b] = 0 := by
  have hp := M.made_ok h
  obtain ⟨h1, h2⟩ := M.ins_ok hp (i := cs.length) (Nat.le_refl _) (b := b) (by show M.taken cs + _ ≤ _; omega)
  have e : (M.made cs).put cs.length b = M.made (cs ++ [b]) := M.put_end (M.made cs) b
  rw [e] at h1
  exact ⟨h1, h2⟩
theorem made_full {cs : List (List UInt8)} (h : M.taken cs ≤ 244) (b : List UInt8) (hb : 244 < M.taken cs + (2 + b.length)) : M.chgP (M.pbytes (M.made cs)) (cs.length : Int) 0 [b] = [] ∧ M.chgE (M.pbytes (M.made cs)) (cs.length : Int) 0 [b] = 32 :=
  M.ins_full (M.made_ok h) (Nat.le_refl _) hb
set_option maxRecDepth 100000 in
set_option maxHeartbeats 2000000 in
theorem made_any {Q : Nat → Prop} (a : Option Addr) (hs : List Part) (n cap : Nat) (hn : hs.length = n) (w : World) (h : GQ w Q ⟨a, cap, hs⟩) (hl : n ≤ 9223372036854775807) (hcp : ∀ x ∈ hs, x.bs.length ≤ x.cap) :
    Calls Tryd.prog 11 #[.slice a n cap] w (PMade w (M.pbytes (M.made (M.madeN (hs.map (·.bs)) 100)))) := by
  have HG := hid h
  have HN := hid hn
  have HCp := hid hcp
  have HNw := hid (show Calls Tryd.prog 22 #[.int .i64 9, .int .u8 3] w (PPag w (M.pbytes (M.made []))) from (gnew_any 9 3 w).mono (fun e w' q => q.pag (M.fill_ok (M.made_ok (cs := []) (by decide))).1 (M.fill_ok (M.made_ok (cs := []) (by decide))).2 (M.len_pbytes (by decide))))
  have HCt := hid (fun w1 pa pc cs (ht : M.taken cs ≤ 244) (hp : Pag w1 pa pc (M.pbytes (M.made cs))) => show Calls Tryd.prog 25 #[.slice pa 256 pc] w1 (Adding (.int .i64 (cs.length : Int)) w1) by
    have q := gcount_any pa _ 256 pc w1 hp.2.1 hp.2.2.1 hp.1
    rw [M.cells_put (M.made_ok ht)] at q
    exact q)
  clear h hn hcp
  go_enter Tryd.func11, Tryd.ntmps11
  go_wp2_with (go_at_call 22; refine HNw.out.mono ?_; rintro e w1 ⟨pa, pc, rfl, H1⟩)
  go_loopw [3, 15] (fun v i wr => ∃ (k : Nat) (pa : Option Addr) (pc : Nat), k ≤ n ∧ k ≤ 100 ∧ i = .int .i64 (k : Int) ∧ v = .slice pa 256 pc ∧ Hid (Pag wr pa pc (M.pbytes (M.made (M.madeN (hs.map (·.bs)) k))) ∧ Adds w wr)) (fun _ i _ => n - (intOf i).toNat)
  case atStart => exact ⟨0, pa, pc, Nat.zero_le _, Nat.zero_le _, rfl, rfl, H1.out.1, H1.out.2⟩
  case round =>
    obtain ⟨k, qa, qc, hk, hk100, rfl, rfl, HI⟩ := hrel
    by_cases hlt : k < n
    · obtain ⟨y, b, o, hy, hq, ha, hcell⟩ := part_get HG.out (k := k) (by show k < hs.length; rw [HN.out]; exact hlt)
      have ha' : a = some ⟨b, o, none⟩ := ha
      subst ha'
      have hcr : wr.cell? ⟨b, o + k, none⟩ = some (.slice y.a y.bs.length y.cap) := below_adds HI.out.2 hcell
      by_cases h100 : k = 100
      · subst h100
        clear hy hq ha hcell
        go_wp2_with fail
        go_ret
        exact ⟨qa, qc, rfl, HI.out⟩
      · have h100' : ((k : Int) == 100) = false := by simp; omega
        obtain ⟨cs, hcs⟩ : ∃ cs, cs = M.madeN (hs.map (·.bs)) k := ⟨_, rfl⟩
        have htk : M.taken cs ≤ 244 := by rw [hcs]; exact M.madeN_ok _ _
        have HM := hid (show M.madeN (hs.map (·.bs)) (k + 1) = if 244 < M.taken cs + (2 + (y.bs.take 60).length) then cs else cs ++ [y.bs.take 60] by
          rw [M.madeN_more (b := y.bs) (by rw [List.getElem?_map, show hs[k]? = some y from hy]; rfl), ← hcs]; rfl)
        rw [← hcs] at HI
        have hcp := HCp.out y (List.mem_of_getElem? hy)
        have HQ := hid hq
        have HT := hid htk
        have hcl : cs.length ≤ 122 := (M.made_ok htk).count.1
        have HI2 := hid (fun w2 (hA2 : Adds wr w2) (bn : Nat) (hbn : (y.bs.take 60).length = bn) => show Calls Tryd.prog 23 #[.slice qa 256 qc, .int .i64 (cs.length : Int), .slice y.a bn y.cap] w2 (PTold w2 (M.chgP (M.pbytes (M.made cs)) (cs.length : Int) 0 [y.bs.take 60]) (M.chgE (M.pbytes (M.made cs)) (cs.length : Int) 0 [y.bs.take 60])) from
          ginsert_any qa _ 256 qc _ y.a (y.bs.take 60) bn y.cap w2 HI.out.1.2.1 HI.out.1.2.2.1 (HI.out.1.1.adds hA2) hbn (by rw [← hbn, List.length_take]; omega) hq.non (((hq.at_.at.pre 60).adds HI.out.2).adds hA2))
        have HCk := hid (HCt.out wr qa qc cs htk HI.out.1)
        obtain ⟨yl, hyl⟩ : ∃ yl, yl = y.bs.length := ⟨_, rfl⟩
        rw [← hyl] at hcr hcp
        obtain ⟨bn, hbn⟩ : ∃ bn, bn = (y.bs.take 60).length := ⟨_, rfl⟩
        have hbn2 : bn = min 60 yl := by rw [hbn, List.length_take, hyl]
        rw [← hbn] at HM
        have HBN := hid hbn.symm
        generalize hcl0 : cs.length = cl at *
        clear hy hq ha hcell hcs hbn hyl htk
        by_cases hfit : 244 < M.taken cs + (2 + bn)
        · have HE := hid (show M.chgP (M.pbytes (M.made cs)) (cl : Int) 0 [y.bs.take 60] = [] ∧ M.chgE (M.pbytes (M.made cs)) (cl : Int) 0 [y.bs.take 60] = 32 by rw [← hcl0]; exact made_full HT.out _ (by rw [HBN.out]; exact hfit))
          rw [if_pos hfit] at HM
          rw [HE.out.1, HE.out.2] at HI2
          clear hfit hcl0
          by_cases h60 : 60 < yl
          · obtain rfl : bn = 60 := by omega
            clear hbn2
            have h60' : (60 : Int) < (yl : Int) := by omega
            have hs6 : ∀ w', (Instr.sliceAt 22 (.slice y.a yl y.cap) none (some (.int .i64 60)) none).run Tryd.prog w' = .ok (.slice y.a 60 y.cap) w' := fun w' => run_pre y.a yl y.cap 60 (by omega) w'
            go_wp2_with (first
              | (go_at_call 25; refine HCk.out.mono ?_; rintro e w2 ⟨rfl, hA2⟩; have A2 := hid hA2; clear hA2)
              | (go_at_call 23; refine (HI2.out w2 A2.out 60 HBN.out).mono ?_; rintro e w3 ⟨ra, rc, rfl, H3⟩))
            go_roundw
            case rel => exact ⟨k + 1, qa, qc, by omega, by omega, by go_num, rfl, by rw [HM.out]; exact (HI.out.1.adds A2.out).adds H3.out.2.2.2, (HI.out.2.trans A2.out).trans H3.out.2.2.2⟩
            case measure => simp [intOf]; omega
          · obtain rfl : bn = yl := by omega
            clear hbn2
            have h60' : ¬ (60 : Int) < (bn : Int) := by omega
            go_wp2_with (first
              | (go_at_call 25; refine HCk.out.mono ?_; rintro e w2 ⟨rfl, hA2⟩; have A2 := hid hA2; clear hA2)
              | (go_at_call 23; refine (HI2.out w2 A2.out bn HBN.out).mono ?_; rintro e w3 ⟨ra, rc, rfl, H3⟩))
            go_roundw
            case rel => exact ⟨k + 1, qa, qc, by omega, by omega, by go_num, rfl, by rw [HM.out]; exact (HI.out.1.adds A2.out).adds H3.out.2.2.2, (HI.out.2.trans A2.out).trans H3.out.2.2.2⟩
            case measure => simp [intOf]; omega
        · have HE := hid (show M.chgP (M.pbytes (M.made cs)) (cl : Int) 0 [y.bs.take 60] = M.pbytes (M.made (cs ++ [y.bs.take 60])) ∧ M.chgE (M.pbytes (M.made cs)) (cl : Int) 0 [y.bs.take 60] = 0 by rw [← hcl0]; exact made_put HT.out _ (by rw [HBN.out]; exact hfit))
          rw [if_neg hfit] at HM
          rw [HE.out.1, HE.out.2] at HI2
          have hl2 : (M.pbytes (M.made (cs ++ [y.bs.take 60]))).length = 256 := M.len_pbytes (by show M.taken (cs ++ [_]) ≤ 244; rw [M.taken_app, M.taken_one, HBN.out]; omega)
          have HJ2 := hid (fun w2 (hA2 : Adds wr w2) bn (hbn : (y.bs.take 60).length = bn) => (HI2.out w2 hA2 bn hbn).mono (fun e w' q => q.pag rfl rfl hl2))
          clear hfit HI2 hl2 hcl0
          by_cases h60 : 60 < yl
          · obtain rfl : bn = 60 := by omega
            clear hbn2
            have h60' : (60 : Int) < (yl : Int) := by omega
            have hs6 : ∀ w', (Instr.sliceAt 22 (.slice y.a yl y.cap) none (some (.int .i64 60)) none).run Tryd.prog w' = .ok (.slice y.a 60 y.cap) w' := fun w' => run_pre y.a yl y.cap 60 (by omega) w'
            go_wp2_with (first
              | (go_at_call 25; refine HCk.out.mono ?_; rintro e w2 ⟨rfl, hA2⟩; have A2 := hid hA2; clear hA2)
              | (go_at_call 23; refine (HJ2.out w2 A2.out 60 HBN.out).mono ?_; rintro e w3 ⟨ra, rc, rfl, H3⟩))
            go_roundw
            case rel => exact ⟨k + 1, ra, rc, by omega, by omega, by go_num, rfl, by rw [HM.out]; exact H3.out.1, (HI.out.2.trans A2.out).trans H3.out.2⟩
            case measure => simp [intOf]; omega
          · obtain rfl : bn = yl := by omega
            clear hbn2
            have h60' : ¬ (60 : Int) < (bn : Int) := by omega
            go_wp2_with (first
              | (go_at_call 25; refine HCk.out.mono ?_; rintro e w2 ⟨rfl, hA2⟩; have A2 := hid hA2; clear hA2)
              | (go_at_call 23; refine (HJ2.out w2 A2.out bn HBN.out).mono ?_; rintro e w3 ⟨ra, rc, rfl, H3⟩))
            go_roundw
            case rel => exact ⟨k + 1, ra, rc, by omega, by omega, by go_num, rfl, by rw [HM.out]; exact H3.out.1, (HI.out.2.trans A2.out).trans H3.out.2⟩
            case measure => simp [intOf]; omega
    · obtain rfl : n = k := by omega
      have HE := hid (show M.madeN (hs.map (·.bs)) n = M.madeN (hs.map (·.bs)) 100 by
        unfold M.madeN
        rw [List.take_of_length_le (by rw [List.length_map, HN.out]; exact Nat.le_refl _), List.take_of_length_le (by rw [List.length_map, HN.out]; exact hk100)])
      go_wp2_with fail
      go_ret
      exact ⟨qa, qc, rfl, by rw [← HE.out]; exact HI.out⟩
end Go.Proofs.YtidkmamjhpckgaaDoor
