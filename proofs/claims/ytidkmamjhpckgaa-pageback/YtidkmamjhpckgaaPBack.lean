/- PageBack. -/
import Derived.Test.YtidkmamjhpckgaaPMade
import Derived.Deep.CutBlock
import Derived.Deep.DeepCutAuto
namespace Go.Proofs.Ytidkmamjhpckgaa
open Go.RowKit

set_option maxRecDepth 100000 in
theorem remlen (a : Int) (m : Nat) : ∃ k : Nat, k ≤ m ∧ (IntKind.u64.wrap a).tmod ((m : Int) + 1) = (k : Int) ∧ IntKind.u64.wrap a % ((m : Int) + 1) = (k : Int) := by
  have hu : 0 ≤ IntKind.u64.wrap a := by
    simp only [IntKind.wrap]
    exact Int.emod_nonneg _ (by decide)
  have e0 := Int.emod_nonneg (IntKind.u64.wrap a) (show ((m : Int) + 1) ≠ 0 by omega)
  have e1 := Int.emod_lt_of_pos (IntKind.u64.wrap a) (show (0 : Int) < ((m : Int) + 1) by omega)
  exact ⟨(IntKind.u64.wrap a % ((m : Int) + 1)).toNat, by omega, by rw [Int.tmod_eq_emod_of_nonneg hu]; omega, by omega⟩
/-- Nothing, and why. -/
def PNo (w : World) (z : Int) (e : Ending) (w' : World) : Prop := ∃ a cap, e = .returned (.tuple #[.slice a 0 cap, .int .i64 z]) ∧ Adds w w'
set_option maxRecDepth 100000 in
theorem PTold.no {w w' : World} {cs : List UInt8} {er : Nat} {e : Ending} {z : Int} (h : PTold w cs er e w') (h1 : cs = []) (h2 : (er : Int) = z) : PNo w z e w' := by
  obtain ⟨a, cap, he, H⟩ := h
  subst h1
  subst h2
  exact ⟨a, cap, he, H.out.2.2.2⟩
/-- Bytes of a law's argument. -/
def Arg (w : World) (a : Option Addr) (n cap : Nat) (bs : List UInt8) : Prop := At w a bs ∧ bs.length = n ∧ (a = none → cap = 0)
theorem Arg.adds {w w' : World} {a : Option Addr} {n cap : Nat} {bs : List UInt8} (h : Arg w a n cap bs) (hA : Adds w w') : Arg w' a n cap bs := ⟨h.1.adds hA, h.2⟩
theorem pag_len {p : M.Pg} (hp : p.Ok) : (M.pbytes p).length = 256 := M.len_pbytes hp.room
set_option maxRecDepth 100000 in
theorem pg_count {p : M.Pg} (hp : p.Ok) {w : World} {a : Option Addr} {cap N : Nat} (h : Pag w a cap (M.pbytes p)) (hN : p.cells.length = N) : Calls Try.prog 8 #[.slice a 256 cap] w (Adding (.int .i64 (N : Int)) w) := by
  have q := gcount_any a _ 256 cap w h.2.1 h.2.2.1 h.1
  rw [M.cells_put hp, hN] at q
  exact q
set_option maxRecDepth 100000 in
theorem pg_free {p : M.Pg} {w : World} {a : Option Addr} {cap : Nat} {F : Int} (h : Pag w a cap (M.pbytes p)) (hF : M.freeP (M.pbytes p) = F) : Calls Try.prog 9 #[.slice a 256 cap] w (Adding (.int .i64 F) w) := by
  have q := gfree_any a _ 256 cap w h.2.1 h.2.2.1 h.1
  rw [hF] at q
  exact q
set_option maxRecDepth 100000 in
theorem pg_cells {p : M.Pg} (hp : p.Ok) {w : World} {a : Option Addr} {cap N : Nat} (h : Pag w a cap (M.pbytes p)) (hN : p.cells.length = N) : Calls Try.prog 12 #[.slice a 256 cap] w (fun e w' => ∃ ca cc, ∃ hs : List Part, e = .returned (.slice ca N cc) ∧ Hid (hs.map (·.bs) = p.cells ∧ GQ w' (fun k => w.heap.size ≤ k) ⟨ca, cc, hs⟩ ∧ Adds w w' ∧ N ≤ cc)) := by
  have q := gcells_any a _ 256 cap w h.2.1 h.2.2.1 h.1
  unfold PCells at q
  rw [M.cells_put hp, hN] at q
  exact q
set_option maxRecDepth 100000 in
set_option maxHeartbeats 2000000 in
theorem back9 {Q : Nat → Prop} (a : Option Addr) (hs : List Part) (n cap : Nat) (hn : hs.length = n) (z : Int) (ba : Option Addr) (b : List UInt8) (bn bc : Nat) (ca : Option Addr) (c : List UInt8) (cn cc : Nat) (w : World) (h : GQ w Q ⟨a, cap, hs⟩) (hl : n ≤ 9223372036854775807) (hcp : ∀ x ∈ hs, x.bs.length ≤ x.cap) (hb : Arg w ba bn bc b) (hbn : bn ≤ 1000000000000000) (hc : Arg w ca cn cc c) (hcn : cn ≤ 1000000000000000) :
    Calls Try.prog 5 #[.slice a n cap, .int .i64 z, .slice ba bn bc, .slice ca cn cc] w (Adding (.bool true) w) := by
  have HM := hid (fun w1 (hA : Adds w w1) => made_any a hs n cap hn w1 (h.adds hA) hl hcp)
  obtain ⟨CS, hCS⟩ : ∃ CS, CS = M.madeN (hs.map (·.bs)) 100 := ⟨_, rfl⟩
  have ht : M.taken CS ≤ 244 := by rw [hCS]; exact M.madeN_ok _ _
  rw [← hCS] at HM
  have hp := M.made_ok ht
  obtain ⟨p, hp0⟩ : ∃ p, p = M.made CS := ⟨_, rfl⟩
  rw [← hp0] at HM hp
  have hpt : M.taken p.cells = M.taken CS := by rw [hp0]; rfl
  obtain ⟨N, hN⟩ : ∃ N, p.cells.length = N := ⟨_, rfl⟩
  have hN122 : N ≤ 122 := by rw [← hN]; exact hp.count.1
  obtain ⟨t, ht0⟩ : ∃ t, t = M.taken p.cells := ⟨_, rfl⟩
  have ht244 : t ≤ 244 := by rw [ht0]; exact hp.room
  obtain ⟨F, hF⟩ : ∃ F, M.freeP (M.pbytes p) = F := ⟨_, rfl⟩
  have hF2 : F = if 242 < t then -1 else 242 - (t : Int) := by rw [← hF, M.free_put hp, ← ht0]
  obtain ⟨i, hi, e1, e2⟩ := remlen z N
  have hF3 : -1 ≤ F ∧ F ≤ 242 := by rw [hF2]; split <;> omega
  have HP := hid (And.intro hp (And.intro hN (And.intro hF ht0)))
  have HB := hid hb
  have HC := hid hc
  have HW := hid (works9 w)
  have hLb : b.length = bn := hb.2.1
  have hLc : c.length = cn := hc.2.1
  clear hb hc h hcp hCS ht hp0 hpt hp hN ht0 hF
  by_cases hfit : 244 < t + (2 + bn)
  · have HI := hid (fun w1 pa pc (hA : Adds w w1) (hg : Pag w1 pa pc (M.pbytes p)) => show Calls Try.prog 14 #[.slice pa 256 pc, .int .i64 (i : Int), .slice ba bn bc] w1 (PNo w1 32) from
      (ginsert_any pa _ 256 pc _ ba b bn bc w1 hg.2.1 hg.2.2.1 hg.1 hLb hbn HB.out.2.2 (HB.out.1.adds hA)).mono (fun e w' q => q.no (M.ins_full HP.out.1 (by rw [HP.out.2.1]; exact hi) (by rw [← HP.out.2.2.2, hLb]; exact hfit)).1 (by rw [(M.ins_full HP.out.1 (by rw [HP.out.2.1]; exact hi) (by rw [← HP.out.2.2.2, hLb]; exact hfit)).2]; rfl)))
    have hFb : F < (bn : Int) := by rw [hF2]; split <;> omega
    clear hF2 hLb hLc
    go_enter Try.func5, Try.ntmps5
    go_wp2_with (first
      | (go_at_call 18; refine HW.out.mono ?_; rintro e w1 ⟨rfl, hA1⟩; have A1 := hid hA1; clear hA1)
      | (go_at_call 22; refine (HM.out w1 A1.out).mono ?_; rintro e w2 ⟨pa, pc, rfl, H2⟩; have A2 := hid (A1.out.trans H2.out.2))
      | (go_at_call 8; refine (pg_count HP.out.1 H2.out.1 HP.out.2.1).mono ?_; rintro e w3 ⟨rfl, hA3⟩; have A3 := hid (A2.out.trans hA3); have G3 := hid (H2.out.1.adds hA3); clear hA3)
      | (go_at_call 14; refine (HI.out w3 pa pc A3.out G3.out).mono ?_; rintro e w4 ⟨ra, rc, rfl, hA4⟩; have A4 := hid (A3.out.trans hA4); have G4 := hid (G3.out.adds hA4); clear hA4)
      | (go_at_call 9; refine (pg_free G4.out HP.out.2.2.1).mono ?_; rintro e w5 ⟨rfl, hA5⟩; have A5 := hid (A4.out.trans hA5); clear hA5))
    go_ret
    exact ⟨rfl, A5.out⟩
  · have hfit' : M.taken p.cells + (2 + b.length) ≤ 244 := by rw [← HP.out.2.2.2, hLb]; omega
    have hq := HP.out.1.put i hfit'
    have HI := hid (fun w1 pa pc (hA : Adds w w1) (hg : Pag w1 pa pc (M.pbytes p)) => show Calls Try.prog 14 #[.slice pa 256 pc, .int .i64 (i : Int), .slice ba bn bc] w1 (PPag w1 (M.pbytes (p.put i b))) from
      (ginsert_any pa _ 256 pc _ ba b bn bc w1 hg.2.1 hg.2.2.1 hg.1 hLb hbn HB.out.2.2 (HB.out.1.adds hA)).mono (fun e w' q => q.pag (M.ins_ok HP.out.1 (by rw [HP.out.2.1]; exact hi) hfit').1 (M.ins_ok HP.out.1 (by rw [HP.out.2.1]; exact hi) hfit').2 (pag_len hq)))
    have HRm := hid (fun w1 qa qc (hg : Pag w1 qa qc (M.pbytes (p.put i b))) => show Calls Try.prog 17 #[.slice qa 256 qc, .int .i64 (i : Int)] w1 (PPag w1 (M.pbytes p)) from
      (gremove_any qa _ 256 qc _ w1 hg.2.1 hg.2.2.1 hg.1).mono (fun e w' q => q.pag (M.rem_ok HP.out.1 (by rw [HP.out.2.1]; exact hi) hfit').1 (M.rem_ok HP.out.1 (by rw [HP.out.2.1]; exact hi) hfit').2 (pag_len HP.out.1)))
    obtain ⟨N1, hN1⟩ : ∃ N1, N1 = N + 1 := ⟨_, rfl⟩
    have hqN : (p.put i b).cells.length = N1 := by rw [hN1, ← HP.out.2.1]; exact M.put1_len _ _ _ (by rw [HP.out.2.1]; exact hi)
    obtain ⟨G, hG⟩ : ∃ G, M.freeP (M.pbytes (p.put i b)) = G := ⟨_, rfl⟩
    have hG2 : G = if 242 < t + (2 + bn) then -1 else 242 - ((t + (2 + bn) : Nat) : Int) := by
      rw [← hG, M.free_put hq]
      have e : M.taken (p.put i b).cells = t + (2 + bn) := by rw [HP.out.2.2.2, ← hLb]; exact M.put1_taken _ _ _
      rw [e]
    have hFb : ¬ F < (bn : Int) := by rw [hF2]; split <;> omega
    have hGm : max (F - 2 - (bn : Int)) (-1) = G := by rw [hF2, hG2]; split <;> split <;> omega
    have HQ := hid (And.intro hq (And.intro hqN hG))
    have HGm := hid (And.intro hGm hFb)
    have HL := hid (And.intro hLb hLc)
    have HT := hid hfit'
    have hFG : F - 2 - (bn : Int) ≤ 242 ∧ -2 ≤ F - 2 - (bn : Int) := by rw [hF2]; split <;> omega
    have hN1i : (N : Int) + 1 = (N1 : Int) := by omega
    rw [hN1i] at e1 e2
    have hiN : i < N1 := by omega
    have HN1 := hid hN1
    clear hF2 hLb hLc hG2 hG hq hqN hfit' hGm hN1
    go_enter Try.func5, Try.ntmps5
    go_upto_region 9 with (first
      | (go_at_call 18; refine HW.out.mono ?_; rintro e w1 ⟨rfl, hA1⟩; have A1 := hid hA1; clear hA1)
      | (go_at_call 22; refine (HM.out w1 A1.out).mono ?_; rintro e w2 ⟨pa, pc, rfl, H2⟩; have A2 := hid (A1.out.trans H2.out.2))
      | (go_at_call 8; refine (pg_count HP.out.1 H2.out.1 HP.out.2.1).mono ?_; rintro e w3 ⟨rfl, hA3⟩; have A3 := hid (A2.out.trans hA3); have G3 := hid (H2.out.1.adds hA3); clear hA3)
      | (go_at_call 14; refine (HI.out w3 pa pc A3.out G3.out).mono ?_; rintro e w4 ⟨qa, qc, rfl, H4⟩; have A4 := hid (A3.out.trans H4.out.2); have G4 := hid (G3.out.adds H4.out.2))
      | (go_at_call 9; refine (pg_free G4.out HP.out.2.2.1).mono ?_; rintro e w5 ⟨rfl, hA5⟩; have A5 := hid (A4.out.trans hA5); have G5 := hid (G4.out.adds hA5); have Q5 := hid (H4.out.1.adds hA5); clear hA5))
    go_cut [74] (fun t74 wx => t74 = .bool false ∧ Hid (Adds w5 wx))
    case first =>
      by_cases hm : -1 ≤ F - 2 - (bn : Int)
      · obtain rfl : G = F - 2 - (bn : Int) := by have := HGm.out.1; omega
        go_wp2_with (first
          | (go_at_call 8; refine (pg_count HQ.out.1 Q5.out HQ.out.2.1).mono ?_; rintro e w6 ⟨rfl, hA6⟩; have A6 := hid hA6; clear hA6)
          | (go_at_call 9; refine (pg_free (G5.out.adds A7.out) HP.out.2.2.1).mono ?_; rintro e w8 ⟨rfl, hA8⟩; have A8 := hid (A7.out.trans hA8); clear hA8)
          | (go_at_call 9; refine (pg_free (Q5.out.adds A6.out) HQ.out.2.2).mono ?_; rintro e w7 ⟨rfl, hA7⟩; have A7 := hid (A6.out.trans hA7); clear hA7))
        all_goals
          go_meet
          case rel => exact ⟨rfl, A8.out⟩
      · obtain rfl : G = -1 := by have := HGm.out.1; omega
        go_wp2_with (first
          | (go_at_call 8; refine (pg_count HQ.out.1 Q5.out HQ.out.2.1).mono ?_; rintro e w6 ⟨rfl, hA6⟩; have A6 := hid hA6; clear hA6)
          | (go_at_call 9; refine (pg_free (G5.out.adds A7.out) HP.out.2.2.1).mono ?_; rintro e w8 ⟨rfl, hA8⟩; have A8 := hid (A7.out.trans hA8); clear hA8)
          | (go_at_call 9; refine (pg_free (Q5.out.adds A6.out) HQ.out.2.2).mono ?_; rintro e w7 ⟨rfl, hA7⟩; have A7 := hid (A6.out.trans hA7); clear hA7))
        all_goals
          go_meet
          case rel => exact ⟨rfl, A8.out⟩
    case rest =>
      obtain ⟨hu74, HX⟩ := hcut
      subst hu74
      have A6 := hid (A5.out.trans HX.out)
      have G6 := hid (G5.out.adds HX.out)
      have Q6 := hid (Q5.out.adds HX.out)
      clear HX A5 G5 Q5 HI HM HW A1 A2 A3 A4 G3 G4 H2 H4
      go_upto_region 12 with (first
        | (go_at_call 12; refine (pg_cells HQ.out.1 (Q6.out.adds H7.out.2.2.1) HQ.out.2.1).mono ?_; rintro e w8 ⟨na, nc, ns, rfl, H8⟩)
        | (go_at_call 12; refine (pg_cells HP.out.1 G6.out HP.out.2.1).mono ?_; rintro e w7 ⟨wa, wcap, ws, rfl, H7⟩))
      clear hN1i
      have hN1 := HN1.out
      have hNn : ns.length = N1 := by rw [← HQ.out.2.1, ← H8.out.1, List.length_map]
      have hNw : ws.length = N := by rw [← HP.out.2.1, ← H7.out.1, List.length_map]
      obtain ⟨y, nb, no, hy, hqy, hna, hcy⟩ := part_get H8.out.2.1 (k := i) (by show i < ns.length; rw [hNn]; exact hiN)
      have hna' : na = some ⟨nb, no, none⟩ := hna
      subst hna'
      have hyb : y.bs = b := by
        have q : (ns.map (·.bs))[i]? = some b := by rw [H8.out.1]; exact M.put1_get b (by rw [HP.out.2.1]; exact hi)
        rw [List.getElem?_map, show ns[i]? = some y from hy] at q
        exact Option.some.inj q
      have HCell := hid (show w8.cell? ⟨nb, no + i, none⟩ = some (.slice y.a bn y.cap) by rw [← HL.out.1, ← hyb]; exact hcy)
      have HCv1 := hid (fun (w' : World) (hw : Adds w8 w') => show (convert 22 9 (.slice y.a bn y.cap)).run Try.prog w' = .ok (.string ⟨b.toArray⟩) w' by
        have q := conv_at w' y.a y.bs y.cap (hqy.at_.at.adds hw)
        rw [hyb, HL.out.1] at q; exact q)
      have A8 := hid ((A6.out.trans H7.out.2.2.1).trans H8.out.2.2.1)
      have HCv2 := hid (fun (w' : World) (hw : Adds w8 w') => show (convert 22 9 (.slice ba bn bc)).run Try.prog w' = .ok (.string ⟨b.toArray⟩) w' by
        have q := conv_at w' ba b bc (HB.out.1.adds (A8.out.trans hw))
        rw [HL.out.1] at q; exact q)
      obtain ⟨i1, hi1⟩ : ∃ i1, i1 = i + 1 := ⟨_, rfl⟩
      have HC1 := hid (fun (w' : World) (hw : Adds w8 w') => show Calls Try.prog 11 #[.slice (some ⟨nb, no, none⟩) i nc, .slice wa i wcap] w' (Adding (.bool true) w') by
        have q := cells9 (some ⟨nb, no, none⟩) wa nc wcap i i (ns.take i) (ws.take i) w' (by rw [List.length_take]; omega) (by rw [List.length_take]; omega) ((H8.out.2.1.adds hw).pre i) ((H7.out.2.1.adds (H8.out.2.2.1.trans hw)).pre i) (by omega)
        rw [List.map_take, List.map_take, H8.out.1, H7.out.1, show (p.put i b).cells.take i = p.cells.take i from M.put1_take b (by rw [HP.out.2.1]; exact hi), decide_eq_true rfl] at q
        exact q)
      have HC2 := hid (fun (w' : World) (hw : Adds w8 w') => show Calls Try.prog 11 #[.slice (sufAt (some ⟨nb, no, none⟩) nc i1) (N1 - i1) (nc - i1), .slice (sufAt wa wcap i) (N - i) (wcap - i)] w' (Adding (.bool true) w') by
        have q := cells9 (sufAt (some ⟨nb, no, none⟩) nc i1) (sufAt wa wcap i) (nc - i1) (wcap - i) (N1 - i1) (N - i) (ns.drop i1) (ws.drop i) w' (by rw [List.length_drop]; omega) (by rw [List.length_drop]; omega) ((H8.out.2.1.adds hw).suf i1 (by rw [hNn]; exact H8.out.2.2.2)) ((H7.out.2.1.adds (H8.out.2.2.1.trans hw)).suf i (by rw [hNw]; exact H7.out.2.2.2)) (by omega)
        rw [List.map_drop, List.map_drop, H8.out.1, H7.out.1, hi1, show (p.put i b).cells.drop (i + 1) = p.cells.drop i from M.put1_drop b (by rw [HP.out.2.1]; exact hi), decide_eq_true rfl] at q
        rw [hi1]
        exact q)
      have hwN : IntKind.i64.wrap ((N : Int) + 1) = (N1 : Int) := by rw [IntKind.wrap_i64]; omega
      have hwi : IntKind.i64.wrap ((i : Int) + 1) = (i1 : Int) := by rw [IntKind.wrap_i64]; omega
      have hnc := H8.out.2.2.2
      have hwcp := H7.out.2.2.2
      have hsl1 := run_preB (some ⟨nb, no, none⟩) N1 nc i (by omega)
      have hsl2 := run_preB wa N wcap i (by omega)
      have hsl3 := run_sufB (some ⟨nb, no, none⟩) N1 nc i1 (by omega)
      have hsl4 := run_sufB wa N wcap i (by omega)
      have G8 := hid ((G6.out.adds H7.out.2.2.1).adds H8.out.2.2.1)
      have Q8 := hid ((Q6.out.adds H7.out.2.2.1).adds H8.out.2.2.1)
      have hiN' : (i : Int) < (N1 : Int) := by omega
      clear hy hqy hna hcy hyb hNn hNw hi1 H7 H8 G6 Q6 A6 hN1
      refine H_begin (S := fun (w' : World) => Adds w8 w') (by kernel_rfl) ?_
      have hS : (fun (w' : World) => Adds w8 w') w8.drew := (Touch.refl _ w8).drew
      refine H_put (i := 0) 79 (v := .slice (some ⟨nb, no, none⟩) N1 nc) rfl rfl (by kernel_rfl) (by kernel_rfl) (by kernel_rfl) (fun _ _ _ h => h) (Or.inl ⟨by rfl, fun w' hw' => ?_⟩) hS ?_
      · go_simp
      simp only [Act.put, List.setIfInBounds_toArray, List.set_cons_zero, List.set_cons_succ]
      refine H_put (i := 1) 80 (v := .int .i64 (N1 : Int)) rfl rfl (by kernel_rfl) (by kernel_rfl) (by kernel_rfl) (fun _ _ _ h => h) (Or.inl ⟨by rfl, fun w' hw' => ?_⟩) hS ?_
      · go_simp
      simp only [Act.put, List.setIfInBounds_toArray, List.set_cons_zero, List.set_cons_succ]
      refine H_put (i := 2) 81 (v := .int .i64 (N : Int)) rfl rfl (by kernel_rfl) (by kernel_rfl) (by kernel_rfl) (fun _ _ _ h => h) (Or.inl ⟨by rfl, fun w' hw' => ?_⟩) hS ?_
      · go_simp
      simp only [Act.put, List.setIfInBounds_toArray, List.set_cons_zero, List.set_cons_succ]
      refine H_put (i := 3) 82 (v := .int .i64 (N1 : Int)) rfl rfl (by kernel_rfl) (by kernel_rfl) (by kernel_rfl) (fun _ _ _ h => h) (Or.inl ⟨by rfl, fun w' hw' => ?_⟩) hS ?_
      · go_simp
      simp only [Act.put, List.setIfInBounds_toArray, List.set_cons_zero, List.set_cons_succ]
      refine H_put (i := 4) 83 (v := .bool false) rfl rfl (by kernel_rfl) (by kernel_rfl) (by kernel_rfl) (fun _ _ _ h => h) (Or.inl ⟨by rfl, fun w' hw' => ?_⟩) hS ?_
      · go_simp
      simp only [Act.put, List.setIfInBounds_toArray, List.set_cons_zero, List.set_cons_succ]
      refine H_put (i := 5) 84 (v := .bool false) rfl rfl (by kernel_rfl) (by kernel_rfl) (by kernel_rfl) (fun _ _ _ h => h) (Or.inl ⟨by rfl, fun w' hw' => ?_⟩) hS ?_
      · go_simp
      simp only [Act.put, List.setIfInBounds_toArray, List.set_cons_zero, List.set_cons_succ]
      refine H_put (i := 6) 85 (v := .slice (some ⟨nb, no, none⟩) N1 nc) rfl rfl (by kernel_rfl) (by kernel_rfl) (by kernel_rfl) (fun _ _ _ h => h) (Or.inl ⟨by rfl, fun w' hw' => ?_⟩) hS ?_
      · go_simp
      simp only [Act.put, List.setIfInBounds_toArray, List.set_cons_zero, List.set_cons_succ]
      refine H_put (i := 7) 86 (v := .int .i64 (i : Int)) rfl rfl (by kernel_rfl) (by kernel_rfl) (by kernel_rfl) (fun _ _ _ h => h) (Or.inl ⟨by rfl, fun w' hw' => ?_⟩) hS ?_
      · go_simp
      simp only [Act.put, List.setIfInBounds_toArray, List.set_cons_zero, List.set_cons_succ]
      refine H_put (i := 8) 87 (v := .slice (some ⟨nb, no, none⟩) i nc) rfl rfl (by kernel_rfl) (by kernel_rfl) (by kernel_rfl) (fun _ _ _ h => h) (Or.inl ⟨by rfl, fun w' hw' => ?_⟩) hS ?_
      · go_simp
      simp only [Act.put, List.setIfInBounds_toArray, List.set_cons_zero, List.set_cons_succ]
      refine H_put (i := 9) 88 (v := .slice wa N wcap) rfl rfl (by kernel_rfl) (by kernel_rfl) (by kernel_rfl) (fun _ _ _ h => h) (Or.inl ⟨by rfl, fun w' hw' => ?_⟩) hS ?_
      · go_simp
      simp only [Act.put, List.setIfInBounds_toArray, List.set_cons_zero, List.set_cons_succ]
      refine H_put (i := 10) 89 (v := .int .i64 (i : Int)) rfl rfl (by kernel_rfl) (by kernel_rfl) (by kernel_rfl) (fun _ _ _ h => h) (Or.inl ⟨by rfl, fun w' hw' => ?_⟩) hS ?_
      · go_simp
      simp only [Act.put, List.setIfInBounds_toArray, List.set_cons_zero, List.set_cons_succ]
      refine H_put (i := 11) 90 (v := .slice wa i wcap) rfl rfl (by kernel_rfl) (by kernel_rfl) (by kernel_rfl) (fun _ _ _ h => h) (Or.inl ⟨by rfl, fun w' hw' => ?_⟩) hS ?_
      · go_simp
      simp only [Act.put, List.setIfInBounds_toArray, List.set_cons_zero, List.set_cons_succ]
      refine H_call (i := 12) 91 11 #[.slice (some ⟨nb, no, none⟩) i nc, .slice wa i wcap] (R := Adding (.bool true) w8.drew) (by kernel_rfl) rfl rfl (by rfl) (by go_simp) ?_ ?_
      · exact HC1.out w8.drew ((Touch.refl _ w8).drew)
      rintro e w13 ⟨rfl, hA13⟩
      have hS2 : (fun (w' : World) => Adds w8 w') _ := Touch.trans hS hA13
      refine ⟨_, _, rfl, hS2, fun w' h => h, ?_⟩
      clear hS; have hS := hS2; clear hS2
      simp only [Act.put, List.setIfInBounds_toArray, List.set_cons_zero, List.set_cons_succ]
      refine H_put (i := 13) 92 (v := .bool false) rfl rfl (by kernel_rfl) (by kernel_rfl) (by kernel_rfl) (fun _ _ _ h => h) (Or.inl ⟨by rfl, fun w' hw' => ?_⟩) hS ?_
      · go_simp
      simp only [Act.put, List.setIfInBounds_toArray, List.set_cons_zero, List.set_cons_succ]
      refine H_put (i := 14) 93 (v := .bool false) rfl rfl (by kernel_rfl) (by kernel_rfl) (by kernel_rfl) (fun _ _ _ h => h) (Or.inl ⟨by rfl, fun w' hw' => ?_⟩) hS ?_
      · go_simp
      simp only [Act.put, List.setIfInBounds_toArray, List.set_cons_zero, List.set_cons_succ]
      refine H_put (i := 15) 94 (v := .bool false) rfl rfl (by kernel_rfl) (by kernel_rfl) (by kernel_rfl) (fun _ _ _ h => h) (Or.inl ⟨by rfl, fun w' hw' => ?_⟩) hS ?_
      · go_simp
      simp only [Act.put, List.setIfInBounds_toArray, List.set_cons_zero, List.set_cons_succ]
      refine H_put (i := 16) 95 (v := .slice (some ⟨nb, no, none⟩) N1 nc) rfl rfl (by kernel_rfl) (by kernel_rfl) (by kernel_rfl) (fun _ _ _ h => h) (Or.inl ⟨by rfl, fun w' hw' => ?_⟩) hS ?_
      · go_simp
      simp only [Act.put, List.setIfInBounds_toArray, List.set_cons_zero, List.set_cons_succ]
      refine H_put (i := 17) 96 (v := .int .i64 (i : Int)) rfl rfl (by kernel_rfl) (by kernel_rfl) (by kernel_rfl) (fun _ _ _ h => h) (Or.inl ⟨by rfl, fun w' hw' => ?_⟩) hS ?_
      · go_simp
      simp only [Act.put, List.setIfInBounds_toArray, List.set_cons_zero, List.set_cons_succ]
      refine H_put (i := 18) 97 (v := .pointer (some ⟨nb, no + i, none⟩)) rfl rfl (by kernel_rfl) (by kernel_rfl) (by kernel_rfl) (fun _ _ _ h => h) (Or.inl ⟨by rfl, fun w' hw' => ?_⟩) hS ?_
      · go_simp
      simp only [Act.put, List.setIfInBounds_toArray, List.set_cons_zero, List.set_cons_succ]
      refine H_put (i := 19) 98 (v := .slice y.a bn y.cap) rfl rfl (by kernel_rfl) (by kernel_rfl) (by kernel_rfl) (fun _ _ _ h => h) (Or.inl ⟨by rfl, fun w' hw' => ?_⟩) hS ?_
      · have c : w'.cell? ⟨nb, no + i, none⟩ = some (.slice y.a bn y.cap) := below_adds hw' HCell.out; go_simp
      simp only [Act.put, List.setIfInBounds_toArray, List.set_cons_zero, List.set_cons_succ]
      refine H_put (i := 20) 99 (v := .string ⟨b.toArray⟩) rfl rfl (by kernel_rfl) (by kernel_rfl) (by kernel_rfl) (fun _ _ _ h => h) (Or.inl ⟨by rfl, fun w' hw' => ?_⟩) hS ?_
      · have hcv := HCv1.out w' hw'; go_simp
      simp only [Act.put, List.setIfInBounds_toArray, List.set_cons_zero, List.set_cons_succ]
      refine H_put (i := 21) 100 (v := .slice ba bn bc) rfl rfl (by kernel_rfl) (by kernel_rfl) (by kernel_rfl) (fun _ _ _ h => h) (Or.inl ⟨by rfl, fun w' hw' => ?_⟩) hS ?_
      · go_simp
      simp only [Act.put, List.setIfInBounds_toArray, List.set_cons_zero, List.set_cons_succ]
      refine H_put (i := 22) 101 (v := .string ⟨b.toArray⟩) rfl rfl (by kernel_rfl) (by kernel_rfl) (by kernel_rfl) (fun _ _ _ h => h) (Or.inl ⟨by rfl, fun w' hw' => ?_⟩) hS ?_
      · have hcv := HCv2.out w' hw'; go_simp
      simp only [Act.put, List.setIfInBounds_toArray, List.set_cons_zero, List.set_cons_succ]
      refine H_put (i := 23) 102 (v := .bool false) rfl rfl (by kernel_rfl) (by kernel_rfl) (by kernel_rfl) (fun _ _ _ h => h) (Or.inl ⟨by rfl, fun w' hw' => ?_⟩) hS ?_
      · go_simp
      simp only [Act.put, List.setIfInBounds_toArray, List.set_cons_zero, List.set_cons_succ]
      refine H_put (i := 24) 103 (v := .bool false) rfl rfl (by kernel_rfl) (by kernel_rfl) (by kernel_rfl) (fun _ _ _ h => h) (Or.inl ⟨by rfl, fun w' hw' => ?_⟩) hS ?_
      · go_simp
      simp only [Act.put, List.setIfInBounds_toArray, List.set_cons_zero, List.set_cons_succ]
      refine H_put (i := 25) 104 (v := .bool false) rfl rfl (by kernel_rfl) (by kernel_rfl) (by kernel_rfl) (fun _ _ _ h => h) (Or.inl ⟨by rfl, fun w' hw' => ?_⟩) hS ?_
      · go_simp
      simp only [Act.put, List.setIfInBounds_toArray, List.set_cons_zero, List.set_cons_succ]
      refine H_put (i := 26) 105 (v := .slice (some ⟨nb, no, none⟩) N1 nc) rfl rfl (by kernel_rfl) (by kernel_rfl) (by kernel_rfl) (fun _ _ _ h => h) (Or.inl ⟨by rfl, fun w' hw' => ?_⟩) hS ?_
      · go_simp
      simp only [Act.put, List.setIfInBounds_toArray, List.set_cons_zero, List.set_cons_succ]
      refine H_put (i := 27) 106 (v := .int .i64 (i : Int)) rfl rfl (by kernel_rfl) (by kernel_rfl) (by kernel_rfl) (fun _ _ _ h => h) (Or.inl ⟨by rfl, fun w' hw' => ?_⟩) hS ?_
      · go_simp
      simp only [Act.put, List.setIfInBounds_toArray, List.set_cons_zero, List.set_cons_succ]
      refine H_put (i := 28) 107 (v := .int .i64 (i1 : Int)) rfl rfl (by kernel_rfl) (by kernel_rfl) (by kernel_rfl) (fun _ _ _ h => h) (Or.inl ⟨by rfl, fun w' hw' => ?_⟩) hS ?_
      · go_simp
      simp only [Act.put, List.setIfInBounds_toArray, List.set_cons_zero, List.set_cons_succ]
      refine H_put (i := 29) 108 (v := .slice (sufAt (some ⟨nb, no, none⟩) nc i1) (N1 - i1) (nc - i1)) rfl rfl (by kernel_rfl) (by kernel_rfl) (by kernel_rfl) (fun _ _ _ h => h) (Or.inl ⟨by rfl, fun w' hw' => ?_⟩) hS ?_
      · go_simp
      simp only [Act.put, List.setIfInBounds_toArray, List.set_cons_zero, List.set_cons_succ]
      refine H_put (i := 30) 109 (v := .slice wa N wcap) rfl rfl (by kernel_rfl) (by kernel_rfl) (by kernel_rfl) (fun _ _ _ h => h) (Or.inl ⟨by rfl, fun w' hw' => ?_⟩) hS ?_
      · go_simp
      simp only [Act.put, List.setIfInBounds_toArray, List.set_cons_zero, List.set_cons_succ]
      refine H_put (i := 31) 110 (v := .int .i64 (i : Int)) rfl rfl (by kernel_rfl) (by kernel_rfl) (by kernel_rfl) (fun _ _ _ h => h) (Or.inl ⟨by rfl, fun w' hw' => ?_⟩) hS ?_
      · go_simp
      simp only [Act.put, List.setIfInBounds_toArray, List.set_cons_zero, List.set_cons_succ]
      refine H_put (i := 32) 111 (v := .slice (sufAt wa wcap i) (N - i) (wcap - i)) rfl rfl (by kernel_rfl) (by kernel_rfl) (by kernel_rfl) (fun _ _ _ h => h) (Or.inl ⟨by rfl, fun w' hw' => ?_⟩) hS ?_
      · go_simp
      simp only [Act.put, List.setIfInBounds_toArray, List.set_cons_zero, List.set_cons_succ]
      refine H_call (i := 33) 112 11 #[.slice (sufAt (some ⟨nb, no, none⟩) nc i1) (N1 - i1) (nc - i1), .slice (sufAt wa wcap i) (N - i) (wcap - i)] (R := Adding (.bool true) w13) (by kernel_rfl) rfl rfl (by rfl) (by go_simp) ?_ ?_
      · exact HC2.out w13 hS
      rintro e w14 ⟨rfl, hA14⟩
      have hS2 : (fun (w' : World) => Adds w8 w') _ := Touch.trans hS hA14
      refine ⟨_, _, rfl, hS2, fun w' h => h, ?_⟩
      clear hS; have hS := hS2; clear hS2
      simp only [Act.put, List.setIfInBounds_toArray, List.set_cons_zero, List.set_cons_succ]
      refine H_put (i := 34) 113 (v := .bool false) rfl rfl (by kernel_rfl) (by kernel_rfl) (by kernel_rfl) (fun _ _ _ h => h) (Or.inl ⟨by rfl, fun w' hw' => ?_⟩) hS ?_
      · go_simp
      simp only [Act.put, List.setIfInBounds_toArray, List.set_cons_zero, List.set_cons_succ]
      refine H_put (i := 35) 114 (v := .bool false) rfl rfl (by kernel_rfl) (by kernel_rfl) (by kernel_rfl) (fun _ _ _ h => h) (Or.inl ⟨by rfl, fun w' hw' => ?_⟩) hS ?_
      · go_simp
      simp only [Act.put, List.setIfInBounds_toArray, List.set_cons_zero, List.set_cons_succ]
      refine wpAnyH_done (by kernel_rfl) ?_ _
      have A9 := hid (A8.out.trans hS)
      have G9 := hid (G8.out.adds hS)
      have Q9 := hid (Q8.out.adds hS)
      clear hS A8 G8 Q8 hsl1 hsl2 hsl3 hsl4 hwN hwi HC1 HC2 HCv1 HCv2 HCell
      obtain ⟨pb, hpb⟩ : ∃ pb, pb = M.pbytes p := ⟨_, rfl⟩
      have HPB := hid hpb
      by_cases hcf : 244 < t + (2 + cn)
      · have HRp := hid (fun w1 (hA : Adds w w1) (hg : Pag w1 qa qc (M.pbytes (p.put i b))) => show Calls Try.prog 16 #[.slice qa 256 qc, .int .i64 (i : Int), .slice ca cn cc] w1 (PNo w1 32) from
          (greplace_any qa _ 256 qc _ ca c cn cc w1 hg.2.1 hg.2.2.1 hg.1 HL.out.2 hcn HC.out.2.2 (HC.out.1.adds hA)).mono (fun e w' q => q.no (M.rep_full HP.out.1 (by rw [HP.out.2.1]; exact hi) HT.out (by rw [← HP.out.2.2.2, HL.out.2]; exact hcf)).1 (by rw [(M.rep_full HP.out.1 (by rw [HP.out.2.1]; exact hi) HT.out (by rw [← HP.out.2.2.2, HL.out.2]; exact hcf)).2]; rfl)))
        have hFc : F < (cn : Int) := by
          have q := HP.out.2.2.1
          rw [M.free_put HP.out.1, ← HP.out.2.2.2] at q
          rw [← q]; split <;> omega
        clear hpb
        go_wp2_with (first
          | (go_at_call 17; refine (HRm.out _ qa qc Q9.out).mono ?_; rintro e w15 ⟨ra, rc, rfl, H15⟩)
          | (go_at_call 16; refine (HRp.out w15 (A9.out.trans H15.out.2) (Q9.out.adds H15.out.2)).mono ?_; rintro e w16 ⟨sa, sc, rfl, hA16⟩
             have A16 := hid ((A9.out.trans H15.out.2).trans hA16)
             have G16 := hid ((G9.out.adds H15.out.2).adds hA16)
             have hv1 : (convert 22 9 (.slice ra 256 rc)).run Try.prog w16 = .ok (.string ⟨pb.toArray⟩) w16 := by (have q := conv_at w16 ra _ rc (H15.out.1.1.adds hA16); rw [H15.out.1.2.1, ← HPB.out] at q; exact q)
             have hv2 : (convert 22 9 (.slice pa 256 pc)).run Try.prog w16 = .ok (.string ⟨pb.toArray⟩) w16 := by (have q := conv_at w16 pa _ pc G16.out.1; rw [G16.out.2.1, ← HPB.out] at q; exact q)
             clear hA16)
          | (go_at_call 9; refine (pg_free G16.out HP.out.2.2.1).mono ?_; rintro e w17 ⟨rfl, hA17⟩; have A17 := hid (A16.out.trans hA17); clear hA17))
        go_ret
        exact ⟨rfl, A17.out⟩
      · have hcf' : M.taken p.cells + (2 + c.length) ≤ 244 := by rw [← HP.out.2.2.2, HL.out.2]; omega
        have HRp := hid (fun w1 (hA : Adds w w1) (hg : Pag w1 qa qc (M.pbytes (p.put i b))) => show Calls Try.prog 16 #[.slice qa 256 qc, .int .i64 (i : Int), .slice ca cn cc] w1 (PPag w1 (M.pbytes (p.put i c))) from
          (greplace_any qa _ 256 qc _ ca c cn cc w1 hg.2.1 hg.2.2.1 hg.1 HL.out.2 hcn HC.out.2.2 (HC.out.1.adds hA)).mono (fun e w' q => q.pag (M.rep_ok HP.out.1 (by rw [HP.out.2.1]; exact hi) HT.out hcf').1 (M.rep_ok HP.out.1 (by rw [HP.out.2.1]; exact hi) HT.out hcf').2 (pag_len (HP.out.1.put i hcf'))))
        have HRq := hid (fun w1 sa sc (hA : Adds w w1) (hg : Pag w1 sa sc (M.pbytes (p.put i c))) => show Calls Try.prog 16 #[.slice sa 256 sc, .int .i64 (i : Int), .slice ba bn bc] w1 (PPag w1 (M.pbytes (p.put i b))) from
          (greplace_any sa _ 256 sc _ ba b bn bc w1 hg.2.1 hg.2.2.1 hg.1 HL.out.1 hbn HB.out.2.2 (HB.out.1.adds hA)).mono (fun e w' q => q.pag (M.rep_ok HP.out.1 (by rw [HP.out.2.1]; exact hi) hcf' HT.out).1 (M.rep_ok HP.out.1 (by rw [HP.out.2.1]; exact hi) hcf' HT.out).2 (pag_len HQ.out.1)))
        obtain ⟨qb, hqb⟩ : ∃ qb, qb = M.pbytes (p.put i b) := ⟨_, rfl⟩
        have HQB := hid hqb
        clear hpb hqb hcf'
        go_wp2_with (first
          | (go_at_call 17; refine (HRm.out _ qa qc Q9.out).mono ?_; rintro e w15 ⟨ra, rc, rfl, H15⟩)
          | (go_at_call 16; refine (HRq.out w16 sa sc A16.out H16.out.1).mono ?_; rintro e w17 ⟨ua, uc, rfl, H17⟩
             have A17 := hid (A16.out.trans H17.out.2)
             have hv3 : (convert 22 9 (.slice ua 256 uc)).run Try.prog w17 = .ok (.string ⟨qb.toArray⟩) w17 := by (have q := conv_at w17 ua _ uc H17.out.1.1; rw [H17.out.1.2.1, ← HQB.out] at q; exact q)
             have hv4 : (convert 22 9 (.slice qa 256 qc)).run Try.prog w17 = .ok (.string ⟨qb.toArray⟩) w17 := by (have q := conv_at w17 qa _ qc (((Q9.out.adds H15.out.2).adds H16.out.2).adds H17.out.2).1; rw [Q9.out.2.1, ← HQB.out] at q; exact q))
          | (go_at_call 16; refine (HRp.out w15 (A9.out.trans H15.out.2) (Q9.out.adds H15.out.2)).mono ?_; rintro e w16 ⟨sa, sc, rfl, H16⟩
             have A16 := hid ((A9.out.trans H15.out.2).trans H16.out.2)
             have G16 := hid ((G9.out.adds H15.out.2).adds H16.out.2)
             have hv1 : (convert 22 9 (.slice ra 256 rc)).run Try.prog w16 = .ok (.string ⟨pb.toArray⟩) w16 := by (have q := conv_at w16 ra _ rc (H15.out.1.1.adds H16.out.2); rw [H15.out.1.2.1, ← HPB.out] at q; exact q)
             have hv2 : (convert 22 9 (.slice pa 256 pc)).run Try.prog w16 = .ok (.string ⟨pb.toArray⟩) w16 := by (have q := conv_at w16 pa _ pc G16.out.1; rw [G16.out.2.1, ← HPB.out] at q; exact q)))
        go_ret
        exact ⟨rfl, A17.out⟩
end Go.Proofs.Ytidkmamjhpckgaa
