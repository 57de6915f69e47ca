/- PageChanges. -/
import Derived.Test.YtidkmamjhpckgaaRChange
import Derived.Test.YtidkmamjhpckgaaPLaw1
import Derived.Deep.CutBlock
import Derived.Deep.DeepCutAuto
namespace Go.Proofs.Ytidkmamjhpckgaa
open Go.RowKit

set_option maxRecDepth 100000 in
theorem At.own9 {w : World} {C n cap : Nat} {a : Option Addr} {bs : List UInt8} (h : w.ownsRow C 5 1 (.slice a n cap) n (S bs)) : At w a bs := by
  obtain ⟨_, _, e, _, _, hq⟩ := own_cq h
  cases e
  exact hq.at
theorem At.turn {w0 w1 w2 : World} {T : Nat → Prop} {a : Option Addr} {bs : List UInt8} (h : At w0 a bs) (hA : Adds w0 w1) (hT : Touch T w1 w2) (hn : ∀ k, T k → w0.heap.size ≤ k) : At w2 a bs :=
  h.block (fun b _ _ hb => by rw [hT.block b (Nat.lt_of_lt_of_le hb hA.size) (fun c => absurd hb (Nat.not_lt.2 (hn b c))), hA.block b hb id])
theorem At.turn2 {w1 w2 : World} {T : Nat → Prop} {a : Option Addr} {bs : List UInt8} (h : At w1 a bs) (hT : Touch T w1 w2) (hn : ∀ b o, a = some ⟨b, o, none⟩ → ¬ T b) : At w2 a bs :=
  h.block (fun b o e hb => hT.block b hb (hn b o e))
set_option maxRecDepth 100000 in
theorem free_is (bs : List UInt8) : M.freeP bs = if (M.readP bs).isSome = false ∨ 242 < M.taken (M.cellsP bs) then -1 else 242 - (M.taken (M.cellsP bs) : Int) := by
  unfold M.freeP M.cellsP
  cases M.readP bs with
  | none => simp
  | some p =>
    simp only [Option.isSome_some]
    by_cases h : 242 < M.taken p.cells
    · rw [if_pos h, if_pos (.inr h)]
    · rw [if_neg h, if_neg (fun c => by rcases c with c | c; cases c; exact h c)]
set_option maxRecDepth 100000 in
theorem PTold.four {w w1 w' : World} {cs : List UInt8} {er rl : Nat} {e : Ending} (hl : cs.length = rl) (hA : Adds w w1) (h : PTold w1 cs er e w') : PTold4 w cs rl er e w' := by
  obtain ⟨a, cap, he, H⟩ := h
  subst hl
  exact ⟨a, cap, he, H.out.1, H.out.2.1, ⟨H.out.2.2.1.1, fun b o e => Nat.le_trans hA.size (H.out.2.2.1.2 b o e)⟩, hA.trans H.out.2.2.2⟩
set_option maxRecDepth 100000 in
theorem conv_l (w : World) (a : Option Addr) (bs : List UInt8) (l cap : Nat) (h : At w a bs) (hl : bs.length = l) : (convert 22 9 (.slice a l cap)).run Try.prog w = .ok (.string ⟨bs.toArray⟩) w := by
  subst hl
  exact conv_at w a bs cap h
/-- Bytes that the law turns, one by one. -/
def Turn (w wz : World) (ga : Option Addr) (gl gc : Nat) : Prop := (∀ g, ga = some ⟨g, 0, none⟩ → ∃ cur, wz.heap[g]? = some (.cells cur 5 (0, 0)) ∧ ∀ j, j < gl → ∃ c : UInt8, cur[j]? = some (.int .u8 (c.toNat : Int))) ∧ Touch (fun k => (Value.slice ga gl gc).ownBlock = some k) w wz
set_option maxRecDepth 100000 in
theorem Turn.start {w w' : World} {C : Nat} {ga : Option Addr} {gl gc : Nat} {G : List UInt8} (h : w.ownsRow C 5 1 (.slice ga gl gc) gl (S G)) (hA : Adds w w') : Turn w' w' ga gl gc := by
  refine ⟨fun g e => ?_, Touch.refl _ _⟩
  subst e
  obtain ⟨cur, hcur⟩ := row_type h (k := g) rfl
  refine ⟨cur, hA.at' hcur id, fun j hj => ?_⟩
  have hlen : (S G).length = gl := by have q := h.1; rwa [Nat.mul_one] at q
  have hj2 : j < (S G).length := by rw [hlen]; exact hj
  rw [length_S] at hj2
  obtain ⟨_, _, e1, _, _, hq⟩ := own_cq h
  cases e1
  obtain ⟨b, o, e2, _, hc⟩ := hq j (B8 G[j]) (by rw [S_get, List.getElem?_eq_getElem hj2]; rfl)
  cases e2
  rw [cellOf hcur, Nat.zero_add] at hc
  exact ⟨G[j], hc⟩
set_option maxRecDepth 100000 in
theorem Turn.next {w wz : World} {g gl gc j : Nat} (h : Turn w wz (some ⟨g, 0, none⟩) gl gc) (c : UInt8) (x : Value) (hx : x = .int .u8 (c.toNat : Int)) : Turn w (wz.setCell ⟨g, j, none⟩ x) (some ⟨g, 0, none⟩) gl gc := by
  subst hx
  obtain ⟨cur, h1, h2⟩ := h.1 g rfl
  refine ⟨fun g' e => ?_, Touch.setCell (T := fun k => (Value.slice (some ⟨g, 0, none⟩) gl gc).ownBlock = some k) h.2 (p := ⟨g, j, none⟩) (fun _ => rfl) _⟩
  cases e
  refine ⟨_, heap_setCell_same wz g j _ 5 _ h1, fun k hk => ?_⟩
  obtain ⟨d, hd⟩ := h2 k hk
  rw [Array.getElem?_setIfInBounds]
  by_cases e : j = k
  · subst e
    rw [if_pos rfl, if_pos (Array.getElem?_eq_some_iff.1 hd).1]
    exact ⟨c, rfl⟩
  · rw [if_neg e]; exact ⟨d, hd⟩
set_option maxRecDepth 100000 in
set_option maxHeartbeats 3000000 in
theorem changes9 (a : Option Addr) (bs : List UInt8) (n cap : Nat) (i : Int) (ba : Option Addr) (b : List UInt8) (bn bc : Nat) (w : World) (hn : bs.length = n) (hc : n ≤ cap) (hcap : a = none → cap = 0) (hA : At w a bs) (hbn : b.length = bn) (hbc : ba = none → bc = 0) (hB : At w ba b) :
    Calls Try.prog 3 #[.slice a n cap, .int .i64 i, .slice ba bn bc] w (Adding (.bool true) w) := by
  by_cases h1 : 400 < n
  · have h1b : decide ((400 : Int) < (n : Int)) = true := by simp; omega
    clear h1 hA hB
    go_enter Try.func3, Try.ntmps3
    go_wp2_with fail
    go_ret
    exact ⟨rfl, Touch.refl _ _⟩
  by_cases h2 : 400 < bn
  · have h1b : decide ((400 : Int) < (n : Int)) = false := by simp; omega
    have h2b : decide ((400 : Int) < (bn : Int)) = true := by simp; omega
    clear h1 h2 hA hB
    go_enter Try.func3, Try.ntmps3
    go_wp2_with fail
    go_ret
    exact ⟨rfl, Touch.refl _ _⟩
  · have h1b : decide ((400 : Int) < (n : Int)) = false := by simp; omega
    have h2b : decide ((400 : Int) < (bn : Int)) = false := by simp; omega
    have hn4 : n ≤ 400 := by omega
    have hbn4 : bn ≤ 400 := by omega
    obtain ⟨no, hno⟩ : ∃ no, M.noP bs = no := ⟨_, rfl⟩
    obtain ⟨kd, hkd⟩ : ∃ kd, M.kindP bs = kd := ⟨_, rfl⟩
    obtain ⟨okb, hok⟩ : ∃ okb, (M.readP bs).isSome = okb := ⟨_, rfl⟩
    obtain ⟨N, hN⟩ : ∃ N, (M.cellsP bs).length = N := ⟨_, rfl⟩
    obtain ⟨F, hF⟩ : ∃ F, M.freeP bs = F := ⟨_, rfl⟩
    obtain ⟨G, hG⟩ : ∃ G, M.getP bs i = G := ⟨_, rfl⟩
    obtain ⟨ge, hge⟩ : ∃ ge, M.getE bs i = ge := ⟨_, rfl⟩
    obtain ⟨gl, hgl⟩ : ∃ gl, G.length = gl := ⟨_, rfl⟩
    have hN122 : N ≤ 122 ∧ M.taken (M.cellsP bs) ≤ 244 := by
      rw [← hN]
      unfold M.cellsP
      cases hR : M.readP bs with
      | none => exact ⟨by decide, by decide⟩
      | some p => exact ⟨(M.read_ok hR).1.count.1, (M.read_ok hR).1.room⟩
    have hgl244 : gl ≤ 1000 := by
      rw [← hgl, ← hG]
      unfold M.getP
      cases hR : M.readP bs with
      | none => exact Nat.zero_le _
      | some p =>
        simp only
        split
        · exact Nat.zero_le _
        · rw [List.getD_eq_getElem?_getD]
          cases hq : p.cells[i.toNat]? with
          | none => exact Nat.zero_le _
          | some c => have q := cell_len (M.read_ok hR).1 (List.mem_of_getElem? hq); show c.length ≤ 1000; omega
    have hNb := hN122.1
    have HNb := hid hN122
    clear hN122
    have HA := hid hA
    have HB := hid (And.intro hB hbc)
    have HL := hid (And.intro hn (And.intro hbn hc))
    have HCp := hid hcap
    have HD := hid (And.intro hok (And.intro hN (And.intro hG (And.intro hge hgl))))
    have HPa := hid (fun (w1 : World) (hw : Adds w w1) => show Calls Try.prog 6 #[.slice a n cap] w1 (fun e w' => ∃ va vc, ∃ hs : List Part, e = .returned (.tuple #[.agg #[.int .i64 (no : Int), .int .u8 (kd.toNat : Int), .slice va N vc], .bool okb]) ∧ Hid (hs.map (·.bs) = M.cellsP bs ∧ GQ w' (fun _ => True) ⟨va, vc, hs⟩ ∧ Adds w1 w' ∧ hs.length = N ∧ N ≤ vc)) by
      refine (rparse_any a bs n cap w1 hn hc (hA.adds hw)).mono ?_
      rintro e w' ⟨va, vc, hs, rfl, H⟩
      have h5 : hs.length = N := by rw [← hN, ← H.out.1, List.length_map]
      exact ⟨va, vc, hs, by rw [hno, hkd, hok, h5], H.out.1, H.out.2.1, H.out.2.2.1, h5, by rw [← h5]; exact H.out.2.2.2⟩)
    have HG0 := hid (fun (qa : Option Addr) (qc : Nat) (w1 : World) (hq : At w1 qa bs) (hqc : n ≤ qc) => And.intro
      (show Calls Try.prog 7 #[.slice qa n qc] w1 (Adding (.int .u8 (kd.toNat : Int)) w1) by have q := gkind_any qa bs n qc w1 hn hqc hq; rw [hkd] at q; exact q) (And.intro
      (show Calls Try.prog 8 #[.slice qa n qc] w1 (Adding (.int .i64 (N : Int)) w1) by have q := gcount_any qa bs n qc w1 hn hqc hq; rw [hN] at q; exact q) (And.intro
      (show Calls Try.prog 9 #[.slice qa n qc] w1 (Adding (.int .i64 F) w1) by have q := gfree_any qa bs n qc w1 hn hqc hq; rw [hF] at q; exact q)
      (show Calls Try.prog 13 #[.slice qa n qc, .int .i64 i] w1 (fun e w' => ∃ ga gc, e = .returned (.tuple #[.slice ga gl gc, .int .i64 (ge : Int)]) ∧ Hid (w'.ownsRow w1.heap.size 5 1 (.slice ga gl gc) gl (S G) ∧ Adds w1 w')) by
        have q := gget_any qa bs n qc i w1 hn hqc hq; rw [hG, hge] at q; unfold PGot at q; rw [hgl] at q; exact q))))
    have HFi := hid (show F = if okb = false ∨ 242 < M.taken (M.cellsP bs) then -1 else 242 - (M.taken (M.cellsP bs) : Int) by rw [← hF, ← hok]; exact free_is bs)
    clear hA hB hbc hcap hno hkd hok hN hF hG hge hgl hn hbn h1 h2
    go_enter Try.func3, Try.ntmps3
    go_upto_region 5 with (first
      | (go_at_call 6; refine (HPa.out w1 Q1.out.2).mono ?_; rintro e w2 ⟨va, vc, hs, rfl, H2⟩)
      | (at_builtin; refine append_m rfl _ _ rfl w.heap.size (.slice (some ⟨w.heap.size, 0, none⟩) 0 0) 0 [] rfl (row_lit5 w) a bs n cap HL.out.1 rfl HCp.out (HA.out.adds ((Touch.refl _ w).alloc _)) (by omega) ((Touch.refl (fun _ => False) w).alloc _).size ?_
         intro v1 w1 hv1 hg1
         rw [Nat.zero_add] at hv1
         obtain ⟨qa, qc, e1, hqc, hqn, hqq⟩ := own_cq hv1
         subst e1
         have Q1 := hid (And.intro hv1 (show Adds w w1 from Touch.grown ((Touch.refl _ w).alloc _) hg1 (fun k hk hlt => by simp [Value.ownBlock] at hk; omega)))
         have HQA := hid (show At w1 qa bs by have q := hqq; simp only [List.nil_append] at q; exact q.at)
         clear hv1 hg1 hqn hqq))
    obtain ⟨wB, hwB⟩ : ∃ wB, wB = w2.alloc (Obj.cells #[Value.int IntKind.i64 (no : Int), Value.int IntKind.u8 (kd.toNat : Int), Value.slice va N vc] 25) := ⟨_, rfl⟩
    have HBx := hid (show wB.heap[w2.heap.size]? = some (Obj.cells #[Value.int IntKind.i64 (no : Int), Value.int IntKind.u8 (kd.toNat : Int), Value.slice va N vc] 25 (0, 0)) by rw [hwB]; exact heap_alloc_new w2 _)
    have A1B := hid (show Adds w1 wB by rw [hwB]; exact H2.out.2.2.1.trans ((Touch.refl _ w2).alloc _))
    have HGs := hid (show GQ wB (fun _ => True) ⟨va, vc, hs⟩ by rw [hwB]; exact H2.out.2.1.adds ((Touch.refl _ w2).alloc _))
    rw [← hwB]
    clear hwB
    generalize w2.heap.size = B at HBx ⊢
    have HK := hid (fun (w' : World) (hw : Adds wB w') => (HG0.out qa qc w' (HQA.out.adds (A1B.out.trans hw)) hqc).1)
    have HCo := hid (fun (w' : World) (hw : Adds wB w') => (HG0.out qa qc w' (HQA.out.adds (A1B.out.trans hw)) hqc).2.1)
    have HFr := hid (fun (w' : World) (hw : Adds wB w') => (HG0.out qa qc w' (HQA.out.adds (A1B.out.trans hw)) hqc).2.2.1)
    have HF9 := hid (fun (w' : World) (hw : Adds wB w') => free9 (no : Int) (kd.toNat : Int) okb va hs N vc H2.out.2.2.2.1 w' (HGs.out.adds hw) (M.taken (hs.map (·.bs))) rfl (by rw [H2.out.1]; have := HNb.out.2; omega) F (by rw [H2.out.1]; exact HFi.out))
    have HCe := hid (fun (w' : World) (hw : Adds wB w') => show Calls Try.prog 12 #[.slice qa n qc] w' (fun e w3 => ∃ ca cc, e = .returned (.slice ca N cc) ∧ Hid ((∃ ts : List Part, ts.map (·.bs) = M.cellsP bs ∧ GQ w3 (fun _ => True) ⟨ca, cc, ts⟩) ∧ Adds w' w3)) by
      refine (gcells_any qa bs n qc w' HL.out.1 hqc (HQA.out.adds (A1B.out.trans hw))).mono ?_
      rintro e w3 ⟨ca, cc, ts, rfl, H⟩
      exact ⟨ca, cc, by rw [HD.out.2.1], ⟨ts, H.out.1, H.out.2.1.mono (fun _ _ _ => trivial)⟩, H.out.2.2.1⟩)
    have HL9 := hid (fun (w' : World) (ca : Option Addr) (cc : Nat) (hw : Adds wB w') (h : ∃ ts : List Part, ts.map (·.bs) = M.cellsP bs ∧ GQ w' (fun _ => True) ⟨ca, cc, ts⟩) => show Calls Try.prog 11 #[.slice ca N cc, .slice va N vc] w' (Adding (.bool true) w') by
      obtain ⟨ts, e1, hg⟩ := h
      have q := cells9 ca va cc vc N N ts hs w' (by rw [← HD.out.2.1, ← e1, List.length_map]) H2.out.2.2.2.1 hg (HGs.out.adds hw) (by omega)
      rw [e1, H2.out.1, decide_eq_true rfl] at q
      exact q)
    refine H_begin (S := fun (w' : World) => Adds wB w') (by kernel_rfl) ?_
    have hS : (fun (w' : World) => Adds wB w') wB.drew := (Touch.refl _ wB).drew
    refine H_put (i := 0) 33 (v := .slice qa n qc) rfl rfl (by kernel_rfl) (by kernel_rfl) (by kernel_rfl) (fun _ _ _ h => h) (Or.inl ⟨by rfl, fun w' hw' => ?_⟩) hS ?_
    · go_simp
    simp only [Act.put, List.setIfInBounds_toArray, List.set_cons_zero, List.set_cons_succ]
    refine H_put (i := 2) 35 (v := .pointer (some ⟨B, 1, none⟩)) rfl rfl (by kernel_rfl) (by kernel_rfl) (by kernel_rfl) (fun _ _ _ h => h) (Or.inl ⟨by rfl, fun w' hw' => ?_⟩) hS ?_
    · go_simp
    simp only [Act.put, List.setIfInBounds_toArray, List.set_cons_zero, List.set_cons_succ]
    refine H_put (i := 3) 36 (v := .int .u8 (kd.toNat : Int)) rfl rfl (by kernel_rfl) (by kernel_rfl) (by kernel_rfl) (fun _ _ _ h => h) (Or.inl ⟨by rfl, fun w' hw' => ?_⟩) hS ?_
    · have c : w'.cell? ⟨B, 1, none⟩ = some (.int .u8 (kd.toNat : Int)) := cellOf (Touch.at' hw' HBx.out id) 1; go_simp
    simp only [Act.put, List.setIfInBounds_toArray, List.set_cons_zero, List.set_cons_succ]
    refine H_call (i := 1) 34 7 #[.slice qa n qc] (by kernel_rfl) rfl rfl (by rfl) (by go_simp) (HK.out _ hS) ?_
    rintro e y1 ⟨rfl, hA1⟩
    have hS2 : (fun (w' : World) => Adds wB w') _ := Touch.trans hS hA1
    refine ⟨_, _, rfl, hS2, fun w' h => h, ?_⟩
    clear hS; have hS := hS2; clear hS2; clear hA1
    simp only [Act.put, List.setIfInBounds_toArray, List.set_cons_zero, List.set_cons_succ]
    refine H_put (i := 4) 37 (v := .bool false) rfl rfl (by kernel_rfl) (by kernel_rfl) (by kernel_rfl) (fun _ _ _ h => h) (Or.inl ⟨by rfl, fun w' hw' => ?_⟩) hS ?_
    · go_simp
    simp only [Act.put, List.setIfInBounds_toArray, List.set_cons_zero, List.set_cons_succ]
    refine H_put (i := 5) 38 (v := .bool false) rfl rfl (by kernel_rfl) (by kernel_rfl) (by kernel_rfl) (fun _ _ _ h => h) (Or.inl ⟨by rfl, fun w' hw' => ?_⟩) hS ?_
    · go_simp
    simp only [Act.put, List.setIfInBounds_toArray, List.set_cons_zero, List.set_cons_succ]
    refine H_put (i := 6) 39 (v := .slice qa n qc) rfl rfl (by kernel_rfl) (by kernel_rfl) (by kernel_rfl) (fun _ _ _ h => h) (Or.inl ⟨by rfl, fun w' hw' => ?_⟩) hS ?_
    · go_simp
    simp only [Act.put, List.setIfInBounds_toArray, List.set_cons_zero, List.set_cons_succ]
    refine H_put (i := 8) 41 (v := .pointer (some ⟨B, 2, none⟩)) rfl rfl (by kernel_rfl) (by kernel_rfl) (by kernel_rfl) (fun _ _ _ h => h) (Or.inl ⟨by rfl, fun w' hw' => ?_⟩) hS ?_
    · go_simp
    simp only [Act.put, List.setIfInBounds_toArray, List.set_cons_zero, List.set_cons_succ]
    refine H_put (i := 9) 42 (v := .slice va N vc) rfl rfl (by kernel_rfl) (by kernel_rfl) (by kernel_rfl) (fun _ _ _ h => h) (Or.inl ⟨by rfl, fun w' hw' => ?_⟩) hS ?_
    · have c : w'.cell? ⟨B, 2, none⟩ = some (.slice va N vc) := cellOf (Touch.at' hw' HBx.out id) 2; go_simp
    simp only [Act.put, List.setIfInBounds_toArray, List.set_cons_zero, List.set_cons_succ]
    refine H_put (i := 10) 43 (v := .int .i64 (N : Int)) rfl rfl (by kernel_rfl) (by kernel_rfl) (by kernel_rfl) (fun _ _ _ h => h) (Or.inl ⟨by rfl, fun w' hw' => ?_⟩) hS ?_
    · go_simp
    simp only [Act.put, List.setIfInBounds_toArray, List.set_cons_zero, List.set_cons_succ]
    refine H_call (i := 7) 40 8 #[.slice qa n qc] (by kernel_rfl) rfl rfl (by rfl) (by go_simp) (HCo.out _ hS) ?_
    rintro e y2 ⟨rfl, hA2⟩
    have hS2 : (fun (w' : World) => Adds wB w') _ := Touch.trans hS hA2
    refine ⟨_, _, rfl, hS2, fun w' h => h, ?_⟩
    clear hS; have hS := hS2; clear hS2; clear hA2
    simp only [Act.put, List.setIfInBounds_toArray, List.set_cons_zero, List.set_cons_succ]
    refine H_put (i := 11) 44 (v := .bool false) rfl rfl (by kernel_rfl) (by kernel_rfl) (by kernel_rfl) (fun _ _ _ h => h) (Or.inl ⟨by rfl, fun w' hw' => ?_⟩) hS ?_
    · go_simp
    simp only [Act.put, List.setIfInBounds_toArray, List.set_cons_zero, List.set_cons_succ]
    refine H_put (i := 12) 45 (v := .bool false) rfl rfl (by kernel_rfl) (by kernel_rfl) (by kernel_rfl) (fun _ _ _ h => h) (Or.inl ⟨by rfl, fun w' hw' => ?_⟩) hS ?_
    · go_simp
    simp only [Act.put, List.setIfInBounds_toArray, List.set_cons_zero, List.set_cons_succ]
    refine H_put (i := 13) 46 (v := .bool false) rfl rfl (by kernel_rfl) (by kernel_rfl) (by kernel_rfl) (fun _ _ _ h => h) (Or.inl ⟨by rfl, fun w' hw' => ?_⟩) hS ?_
    · go_simp
    simp only [Act.put, List.setIfInBounds_toArray, List.set_cons_zero, List.set_cons_succ]
    refine H_put (i := 14) 47 (v := .slice qa n qc) rfl rfl (by kernel_rfl) (by kernel_rfl) (by kernel_rfl) (fun _ _ _ h => h) (Or.inl ⟨by rfl, fun w' hw' => ?_⟩) hS ?_
    · go_simp
    simp only [Act.put, List.setIfInBounds_toArray, List.set_cons_zero, List.set_cons_succ]
    refine H_put (i := 16) 49 (v := .agg #[.int .i64 (no : Int), .int .u8 (kd.toNat : Int), .slice va N vc]) rfl rfl (by kernel_rfl) (by kernel_rfl) (by kernel_rfl) (fun _ _ _ h => h) (Or.inl ⟨by rfl, fun w' hw' => ?_⟩) hS ?_
    · have c0 := cellOf (Touch.at' hw' HBx.out id) 0; have c1 := cellOf (Touch.at' hw' HBx.out id) 1; have c2 := cellOf (Touch.at' hw' HBx.out id) 2; simp at c0 c1 c2; go_simp
    simp only [Act.put, List.setIfInBounds_toArray, List.set_cons_zero, List.set_cons_succ]
    refine H_put (i := 17) 50 (v := .bool okb) rfl rfl (by kernel_rfl) (by kernel_rfl) (by kernel_rfl) (fun _ _ _ h => h) (Or.inl ⟨by rfl, fun w' hw' => ?_⟩) hS ?_
    · go_simp
    simp only [Act.put, List.setIfInBounds_toArray, List.set_cons_zero, List.set_cons_succ]
    refine H_call (i := 15) 48 9 #[.slice qa n qc] (by kernel_rfl) rfl rfl (by rfl) (by go_simp) (HFr.out _ hS) ?_
    rintro e y3 ⟨rfl, hA3⟩
    have hS2 : (fun (w' : World) => Adds wB w') _ := Touch.trans hS hA3
    refine ⟨_, _, rfl, hS2, fun w' h => h, ?_⟩
    clear hS; have hS := hS2; clear hS2; clear hA3
    simp only [Act.put, List.setIfInBounds_toArray, List.set_cons_zero, List.set_cons_succ]
    refine H_call (i := 18) 51 10 #[.agg #[.int .i64 (no : Int), .int .u8 (kd.toNat : Int), .slice va N vc], .bool okb] (by kernel_rfl) rfl rfl (by rfl) (by go_simp) (HF9.out _ hS) ?_
    rintro e y4 ⟨rfl, hA4⟩
    have hS2 : (fun (w' : World) => Adds wB w') _ := Touch.trans hS hA4
    refine ⟨_, _, rfl, hS2, fun w' h => h, ?_⟩
    clear hS; have hS := hS2; clear hS2; clear hA4
    simp only [Act.put, List.setIfInBounds_toArray, List.set_cons_zero, List.set_cons_succ]
    refine H_put (i := 19) 52 (v := .bool false) rfl rfl (by kernel_rfl) (by kernel_rfl) (by kernel_rfl) (fun _ _ _ h => h) (Or.inl ⟨by rfl, fun w' hw' => ?_⟩) hS ?_
    · go_simp
    simp only [Act.put, List.setIfInBounds_toArray, List.set_cons_zero, List.set_cons_succ]
    refine H_put (i := 20) 53 (v := .bool false) rfl rfl (by kernel_rfl) (by kernel_rfl) (by kernel_rfl) (fun _ _ _ h => h) (Or.inl ⟨by rfl, fun w' hw' => ?_⟩) hS ?_
    · go_simp
    simp only [Act.put, List.setIfInBounds_toArray, List.set_cons_zero, List.set_cons_succ]
    refine H_put (i := 21) 54 (v := .bool false) rfl rfl (by kernel_rfl) (by kernel_rfl) (by kernel_rfl) (fun _ _ _ h => h) (Or.inl ⟨by rfl, fun w' hw' => ?_⟩) hS ?_
    · go_simp
    simp only [Act.put, List.setIfInBounds_toArray, List.set_cons_zero, List.set_cons_succ]
    refine H_put (i := 22) 55 (v := .slice qa n qc) rfl rfl (by kernel_rfl) (by kernel_rfl) (by kernel_rfl) (fun _ _ _ h => h) (Or.inl ⟨by rfl, fun w' hw' => ?_⟩) hS ?_
    · go_simp
    simp only [Act.put, List.setIfInBounds_toArray, List.set_cons_zero, List.set_cons_succ]
    refine H_put (i := 24) 57 (v := .pointer (some ⟨B, 2, none⟩)) rfl rfl (by kernel_rfl) (by kernel_rfl) (by kernel_rfl) (fun _ _ _ h => h) (Or.inl ⟨by rfl, fun w' hw' => ?_⟩) hS ?_
    · go_simp
    simp only [Act.put, List.setIfInBounds_toArray, List.set_cons_zero, List.set_cons_succ]
    refine H_put (i := 25) 58 (v := .slice va N vc) rfl rfl (by kernel_rfl) (by kernel_rfl) (by kernel_rfl) (fun _ _ _ h => h) (Or.inl ⟨by rfl, fun w' hw' => ?_⟩) hS ?_
    · have c : w'.cell? ⟨B, 2, none⟩ = some (.slice va N vc) := cellOf (Touch.at' hw' HBx.out id) 2; go_simp
    simp only [Act.put, List.setIfInBounds_toArray, List.set_cons_zero, List.set_cons_succ]
    refine H_call (i := 23) 56 12 #[.slice qa n qc] (by kernel_rfl) rfl rfl (by rfl) (by go_simp) (HCe.out _ hS) ?_
    rintro e y5 ⟨ca, cc, rfl, H5⟩
    have hS2 : (fun (w' : World) => Adds wB w') _ := Touch.trans hS H5.out.2
    refine ⟨_, _, rfl, hS2, fun w' h => h, ?_⟩
    clear hS; have hS := hS2; clear hS2
    simp only [Act.put, List.setIfInBounds_toArray, List.set_cons_zero, List.set_cons_succ]
    refine H_call (i := 26) 59 11 #[.slice ca N cc, .slice va N vc] (by kernel_rfl) rfl rfl (by rfl) (by go_simp) (HL9.out _ _ _ hS H5.out.1) ?_
    rintro e y6 ⟨rfl, hA6⟩
    have hS2 : (fun (w' : World) => Adds wB w') _ := Touch.trans hS hA6
    refine ⟨_, _, rfl, hS2, fun w' h => h, ?_⟩
    clear hS; have hS := hS2; clear hS2; clear hA6
    simp only [Act.put, List.setIfInBounds_toArray, List.set_cons_zero, List.set_cons_succ]
    refine H_put (i := 27) 60 (v := .bool false) rfl rfl (by kernel_rfl) (by kernel_rfl) (by kernel_rfl) (fun _ _ _ h => h) (Or.inl ⟨by rfl, fun w' hw' => ?_⟩) hS ?_
    · go_simp
    simp only [Act.put, List.setIfInBounds_toArray, List.set_cons_zero, List.set_cons_succ]
    refine H_put (i := 28) 61 (v := .bool false) rfl rfl (by kernel_rfl) (by kernel_rfl) (by kernel_rfl) (fun _ _ _ h => h) (Or.inl ⟨by rfl, fun w' hw' => ?_⟩) hS ?_
    · go_simp
    simp only [Act.put, List.setIfInBounds_toArray, List.set_cons_zero, List.set_cons_succ]
    refine wpAnyH_done (by kernel_rfl) ?_ _
    have AB := hid (show Adds wB y6 from hS)
    clear hS HK HCo HFr HF9 HCe HL9 HPa HFi H5
    go_upto_block 0 with (go_at_call 13; refine ((HG0.out qa qc y6 (HQA.out.adds (A1B.out.trans AB.out)) hqc).2.2.2).mono ?_; rintro e w6 ⟨ga, gc, rfl, H6⟩)
    have AB6 := hid (AB.out.trans H6.out.2)
    have A6 := hid (A1B.out.trans AB6.out)
    have cx : w6.cell? ⟨B, 2, none⟩ = some (.slice va N vc) := by have q := cellOf (Touch.at' AB6.out HBx.out id) 2; simpa using q
    have HSz6 := hid (show w1.heap.size ≤ y6.heap.size from (A1B.out.trans AB.out).size)
    clear HG0
    go_cut [12, 13] (fun v12 v13 wx => ∃ ka kc, v12 = .slice ka gl kc ∧ v13 = .int .i64 (ge : Int) ∧ Hid (wx = w6 ∧ At w6 ka G))
    case first =>
      cases okb with
      | false =>
        have hR : M.readP bs = none := by have q := HD.out.1; cases hq : M.readP bs with | none => rfl | some p => rw [hq] at q; cases q
        have e1 : G = [] := by rw [← HD.out.2.2.1, M.getP, hR]
        have e2 : ge = 22 := by rw [← HD.out.2.2.2.1, M.getE, hR]
        have e3 : gl = 0 := by rw [← HD.out.2.2.2.2, e1]; rfl
        subst e1 e2 e3
        clear hR
        go_wp2_with fail
        go_meet
        case rel => exact ⟨none, 0, rfl, rfl, rfl, At.nil _ _⟩
      | true =>
        obtain ⟨p, hR⟩ : ∃ p, M.readP bs = some p := Option.isSome_iff_exists.1 HD.out.1
        have hcp : M.cellsP bs = p.cells := (M.some_all hR).2.2.1
        have hpN : p.cells.length = N := by rw [← hcp]; exact HD.out.2.1
        by_cases hi : i < 0 ∨ (N : Int) ≤ i
        · have e1 : G = [] := by rw [← HD.out.2.2.1, M.getP, hR]; simp only; rw [hpN, if_pos hi]
          have e2 : ge = 40 := by rw [← HD.out.2.2.2.1, M.getE, hR]; simp only; rw [hpN, if_pos hi]
          have e3 : gl = 0 := by rw [← HD.out.2.2.2.2, e1]; rfl
          subst e1 e2 e3
          clear hR hcp hpN
          by_cases h0 : i < 0
          · have h0b : decide (i < 0) = true := by simpa using h0
            clear hi
            go_wp2_with fail
            go_meet
            case rel => exact ⟨none, 0, rfl, rfl, rfl, At.nil _ _⟩
          · have h0b : decide (i < 0) = false := by simpa using h0
            have hNb' : decide ((N : Int) ≤ i) = true := by simpa using hi.resolve_left h0
            clear hi h0
            go_wp2_with fail
            go_meet
            case rel => exact ⟨none, 0, rfl, rfl, rfl, At.nil _ _⟩
        · obtain ⟨k, hk⟩ : ∃ k : Nat, i = (k : Int) := ⟨i.toNat, by omega⟩
          have hkN : k < N := by omega
          obtain ⟨y, b0, o0, hy, hqy, ha0, hcy⟩ := part_get (HGs.out.adds AB6.out) (k := k) (by show k < hs.length; rw [H2.out.2.2.2.1]; exact hkN)
          have ha1 : va = some ⟨b0, o0, none⟩ := ha0
          have e1 : G = y.bs := by
            have q : (hs.map (·.bs))[k]? = some y.bs := by rw [List.getElem?_map, show hs[k]? = some y from hy]; rfl
            rw [H2.out.1, hcp] at q
            rw [← HD.out.2.2.1, M.getP, hR]
            simp only
            rw [hpN, if_neg hi, hk, Int.toNat_natCast, List.getD_eq_getElem?_getD, q]
            rfl
          have e2 : ge = 0 := by rw [← HD.out.2.2.2.1, M.getE, hR]; simp only; rw [hpN, if_neg hi]
          have hcy' : w6.cell? ⟨b0, o0 + k, none⟩ = some (.slice y.a gl y.cap) := by rw [← HD.out.2.2.2.2, e1]; exact hcy
          have hKA := hid (show At w6 y.a G by rw [e1]; exact hqy.at_.at)
          clear hR hcp hpN hy hqy ha0 hcy e1
          subst e2
          subst ha1
          have h0b : decide (i < 0) = false := by simp; omega
          have hNb' : decide ((N : Int) ≤ i) = false := by simp; omega
          clear hi
          subst hk
          go_wp2_with fail
          go_meet
          case rel => exact ⟨y.a, y.cap, rfl, rfl, rfl, hKA.out⟩
    case rest =>
    obtain ⟨ka, kc, h12, h13, HX⟩ := hcut
    subst h12
    subst h13
    rw [HX.out.1]
    clear cx
    have v1 := conv_l w6 ga G gl gc (At.own9 H6.out.1) HD.out.2.2.2.2
    have v2 := conv_l w6 ka G gl kc HX.out.2 HD.out.2.2.2.2
    go_upto_region 16 with fail
    clear v1 v2
    obtain ⟨Y1, hY1⟩ : ∃ Y, M.chgP bs i 0 [b] = Y := ⟨_, rfl⟩
    obtain ⟨e1, he1⟩ : ∃ e, M.chgE bs i 0 [b] = e := ⟨_, rfl⟩
    obtain ⟨l1, hl1⟩ : ∃ l, Y1.length = l := ⟨_, rfl⟩
    have HI1 := hid (fun (w' : World) (hw : Adds w1 w') => show Calls Try.prog 14 #[.slice qa n qc, .int .i64 i, .slice ba bn bc] w' (PTold4 w' Y1 l1 e1) by
      refine (ginsert_any qa bs n qc i ba b bn bc w' HL.out.1 hqc (HQA.out.adds hw) HL.out.2.1 (by omega) HB.out.2 (HB.out.1.adds (Q1.out.2.trans hw))).mono ?_
      intro e w3 q
      rw [hY1, he1] at q
      exact q.four hl1 (Touch.refl _ _))
    have HC1 := hid (fun (w' : World) (hw : Adds w w') => show Calls Try.prog 15 #[.slice a n cap, .int .i64 i, .int .i64 0, .slice (some ⟨w'.heap.size, 0, none⟩) 1 1] (w'.alloc (.cells #[.slice ba bn bc] 22)) (PTold4 w' Y1 l1 e1) by
      refine (rchange_any a bs n cap i 0 (by decide) (some ⟨w'.heap.size, 0, none⟩) [⟨ba, b, bc⟩] 1 1 (w'.alloc (.cells #[.slice ba bn bc] 22)) HL.out.1 hc ((HA.out.adds hw).adds ((Touch.refl _ w').alloc _)) rfl (by decide) (one_cell w' ba b bn bc HL.out.2.1 HB.out.2 (HB.out.1.adds hw)) (by show M.taken [b] ≤ _; rw [M.taken_one, HL.out.2.1]; omega)).mono ?_
      intro e w3 q
      have q2 : PTold (w'.alloc (.cells #[.slice ba bn bc] 22)) (M.chgP bs i 0 [b]) (M.chgE bs i 0 [b]) e w3 := q
      rw [hY1, he1] at q2
      exact q2.four hl1 ((Touch.refl _ w').alloc _))
    have HY1 := hid hl1
    clear hY1 he1 hl1
    obtain ⟨Y2, hY2⟩ : ∃ Y, M.chgP bs i 1 [b] = Y := ⟨_, rfl⟩
    obtain ⟨e2, he2⟩ : ∃ e, M.chgE bs i 1 [b] = e := ⟨_, rfl⟩
    obtain ⟨l2, hl2⟩ : ∃ l, Y2.length = l := ⟨_, rfl⟩
    have HI2 := hid (fun (w' : World) (hw : Adds w1 w') => show Calls Try.prog 16 #[.slice qa n qc, .int .i64 i, .slice ba bn bc] w' (PTold4 w' Y2 l2 e2) by
      refine (greplace_any qa bs n qc i ba b bn bc w' HL.out.1 hqc (HQA.out.adds hw) HL.out.2.1 (by omega) HB.out.2 (HB.out.1.adds (Q1.out.2.trans hw))).mono ?_
      intro e w3 q
      rw [hY2, he2] at q
      exact q.four hl2 (Touch.refl _ _))
    have HC2 := hid (fun (w' : World) (hw : Adds w w') => show Calls Try.prog 15 #[.slice a n cap, .int .i64 i, .int .i64 1, .slice (some ⟨w'.heap.size, 0, none⟩) 1 1] (w'.alloc (.cells #[.slice ba bn bc] 22)) (PTold4 w' Y2 l2 e2) by
      refine (rchange_any a bs n cap i 1 (by decide) (some ⟨w'.heap.size, 0, none⟩) [⟨ba, b, bc⟩] 1 1 (w'.alloc (.cells #[.slice ba bn bc] 22)) HL.out.1 hc ((HA.out.adds hw).adds ((Touch.refl _ w').alloc _)) rfl (by decide) (one_cell w' ba b bn bc HL.out.2.1 HB.out.2 (HB.out.1.adds hw)) (by show M.taken [b] ≤ _; rw [M.taken_one, HL.out.2.1]; omega)).mono ?_
      intro e w3 q
      have q2 : PTold (w'.alloc (.cells #[.slice ba bn bc] 22)) (M.chgP bs i 1 [b]) (M.chgE bs i 1 [b]) e w3 := q
      rw [hY2, he2] at q2
      exact q2.four hl2 ((Touch.refl _ w').alloc _))
    have HY2 := hid hl2
    clear hY2 he2 hl2
    obtain ⟨Y3, hY3⟩ : ∃ Y, M.chgP bs i 1 [] = Y := ⟨_, rfl⟩
    obtain ⟨e3, he3⟩ : ∃ e, M.chgE bs i 1 [] = e := ⟨_, rfl⟩
    obtain ⟨l3, hl3⟩ : ∃ l, Y3.length = l := ⟨_, rfl⟩
    have HI3 := hid (fun (w' : World) (hw : Adds w1 w') => show Calls Try.prog 17 #[.slice qa n qc, .int .i64 i] w' (PTold4 w' Y3 l3 e3) by
      refine (gremove_any qa bs n qc i w' HL.out.1 hqc (HQA.out.adds hw)).mono ?_
      intro e w3 q
      rw [hY3, he3] at q
      exact q.four hl3 (Touch.refl _ _))
    have HC3 := hid (fun (w' : World) (hw : Adds w w') => show Calls Try.prog 15 #[.slice a n cap, .int .i64 i, .int .i64 1, .slice none 0 0] w' (PTold4 w' Y3 l3 e3) by
      refine (rchange_any a bs n cap i 1 (by decide) none [] 0 0 w' HL.out.1 hc (HA.out.adds hw) rfl (by decide) (GQ.nil w') (by decide)).mono ?_
      intro e w3 q
      have q2 : PTold w' (M.chgP bs i 1 []) (M.chgE bs i 1 []) e w3 := q
      rw [hY3, he3] at q2
      exact q2.four hl3 (Touch.refl _ _))
    have HY3 := hid hl3
    clear hY3 he3 hl3
    go_upto_region 18 with (first
      | (go_at_call 14; refine (HI1.out w6 A6.out).mono ?_; rintro e w7 ⟨ra1, rc1, rfl, H7⟩; have A7 := hid (A6.out.trans H7.out.2.2.2))
      | (go_at_call 15; refine (HC1.out w7 (Q1.out.2.trans A7.out)).mono ?_; rintro e w8 ⟨sa1, sc1, rfl, H8⟩; have A8 := hid (A7.out.trans H8.out.2.2.2)))
    have v1 := conv_l w8 ra1 Y1 l1 rc1 (H7.out.1.adds H8.out.2.2.2) HY1.out
    have v2 := conv_l w8 sa1 Y1 l1 sc1 H8.out.1 HY1.out
    go_upto_region 20 with fail
    clear v1 v2 HI1 HC1
    go_upto_region 22 with (first
      | (go_at_call 16; refine (HI2.out w8 A8.out).mono ?_; rintro e w9 ⟨ra2, rc2, rfl, H9⟩; have A9 := hid (A8.out.trans H9.out.2.2.2))
      | (go_at_call 15; refine (HC2.out w9 (Q1.out.2.trans A9.out)).mono ?_; rintro e w10 ⟨sa2, sc2, rfl, H10⟩; have A10 := hid (A9.out.trans H10.out.2.2.2)))
    have v1 := conv_l w10 ra2 Y2 l2 rc2 (H9.out.1.adds H10.out.2.2.2) HY2.out
    have v2 := conv_l w10 sa2 Y2 l2 sc2 H10.out.1 HY2.out
    go_upto_region 24 with fail
    clear v1 v2 HI2 HC2
    go_upto_region 26 with (first
      | (go_at_call 17; refine (HI3.out w10 A10.out).mono ?_; rintro e w11 ⟨ra3, rc3, rfl, H11⟩; have A11 := hid (A10.out.trans H11.out.2.2.2))
      | (go_at_call 15; refine (HC3.out w11 (Q1.out.2.trans A11.out)).mono ?_; rintro e w12 ⟨sa3, sc3, rfl, H12⟩; have A12 := hid (A11.out.trans H12.out.2.2.2)))
    have A7c := hid ((H7.out.2.2.2.trans H8.out.2.2.2).trans (H9.out.2.2.2.trans H10.out.2.2.2))
    have A6c := hid ((A7c.out.trans H11.out.2.2.2).trans H12.out.2.2.2)
    have HT0 := hid (Turn.start H6.out.1 A6c.out)
    have HG12 := hid (fun (h : 0 < gl) => show ∃ g, ga = some ⟨g, 0, none⟩ by
      obtain ⟨g, cap', e, _⟩ := own_is H6.out.1 (q := 0) (u := B8 (G[0]'(by rw [HD.out.2.2.2.2]; exact h))) (by rw [S_get, List.getElem?_eq_getElem (by rw [HD.out.2.2.2.2]; exact h)]; rfl)
      cases e
      exact ⟨g, rfl⟩)
    have HBl := hid (fun (k : Nat) (hk : (Value.slice ga gl gc).ownBlock = some k) => (row_low H6.out.1 hk))
    have HF1 := hid (fun (b : Nat) (o : Nat) (e : ra3 = some ⟨b, o, none⟩) => Nat.le_trans A7c.out.size (H11.out.2.2.1.2 b o e))
    have HF2 := hid (fun (b : Nat) (o : Nat) (e : sa3 = some ⟨b, o, none⟩) => Nat.le_trans (A7c.out.trans H11.out.2.2.2).size (H12.out.2.2.1.2 b o e))
    have HR3 := hid (And.intro (H11.out.1.adds H12.out.2.2.2) H12.out.1)
    have AW := hid (Q1.out.2.trans A12.out)
    have HSw := hid (Nat.le_trans Q1.out.2.size HSz6.out)
    clear H7 H8 H9 H10 H11 H12 HI3 HC3 H6 A7c A6c A7 A8 A9 A10 A11 A6 AB6 AB HX HBx HGs A1B H2 Q1 HNb
    go_wp2_with fail
    go_loopw [160] (fun iv wz => ∃ k : Nat, k ≤ gl ∧ iv = .int .i64 (k : Int) ∧ Hid (Turn w12 wz ga gl gc)) (fun iv _ => gl - (intOf iv).toNat)
    case atStart => exact ⟨0, Nat.zero_le _, rfl, HT0.out⟩
    case round =>
      obtain ⟨k, hk, rfl, HI⟩ := hrel
      by_cases hlt : k < gl
      · obtain ⟨g, hg⟩ := HG12.out (by omega)
        subst hg
        obtain ⟨cur, hcur, hall⟩ := HI.out.1 g rfl
        obtain ⟨c, hcc⟩ := hall k hlt
        have c1 : wr.cell? ⟨g, k, none⟩ = some (.int .u8 (c.toNat : Int)) := by rw [cellOf hcur]; exact hcc
        have f1 : wr.frozen? ⟨g, k, none⟩ = false := frozen_of_row wr g k _ 5 hcur
        clear hcur hall hcc
        go_wp2_with fail
        go_roundw
        case rel =>
          refine ⟨k + 1, by omega, by go_num, hid (HI.out.next (UInt8.ofNat (c.toNat + 1)) _ ?_)⟩
          have q : (UInt8.ofNat (c.toNat + 1)).toNat = (c.toNat + 1) % 256 := by simp
          rw [q, show (((c.toNat + 1) % 256 : Nat) : Int) = ((c.toNat : Int) + 1) % 256 by omega]
        case measure => simp [intOf]; omega
      · obtain rfl : gl = k := by omega
        have hT := HI.out.2
        have hs6 := HSz6.out
        have v1 := conv_l wr ra3 Y3 l3 rc3 (HR3.out.1.turn2 hT (fun b o e c => by have h1 := HF1.out b o e; have h2 := HBl.out b c; omega)) HY3.out
        have v2 := conv_l wr sa3 Y3 l3 sc3 (HR3.out.2.turn2 hT (fun b o e c => by have h1 := HF2.out b o e; have h2 := HBl.out b c; omega)) HY3.out
        have v3 := conv_l wr qa bs n qc (HQA.out.turn A12.out hT (fun k c => by have h2 := HBl.out k c; omega)) HL.out.1
        have v4 := conv_l wr a bs n cap (HA.out.turn AW.out hT (fun k c => by have h2 := HBl.out k c; have h3 := HSw.out; omega)) HL.out.1
        have HWr := hid (show Adds w wr from AW.out.then hT (fun i hi c => by have h2 := HBl.out i c; have h3 := HSw.out; omega))
        clear hT hs6
        go_wp2_with (go_at_call 18; refine (works9 wr).mono ?_; rintro e w13 ⟨rfl, hA13⟩; have A13 := hid (HWr.out.trans hA13); clear hA13)
        go_ret
        exact ⟨rfl, A13.out⟩
end Go.Proofs.Ytidkmamjhpckgaa
