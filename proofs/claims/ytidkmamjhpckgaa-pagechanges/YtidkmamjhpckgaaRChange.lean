/- The reference's Change, and the law's free. -/
import Derived.Test.YtidkmamjhpckgaaRParse
import Derived.Test.YtidkmamjhpckgaaRFill
import Derived.Test.YtidkmamjhpckgaaPCalls2
namespace Go.Proofs.Ytidkmamjhpckgaa
open Go.RowKit

theorem rparse_any (a : Option Addr) (bs : List UInt8) (n cap : Nat) (w : World) (hn : bs.length = n) (hc : n ≤ cap) (hA : At w a bs) : Calls Try.prog 6 #[.slice a n cap] w (PParse w bs) := by
  by_cases h : n = 256
  · subst h
    obtain ⟨b, o, rfl, _⟩ := hA 0 bs[0] (List.getElem?_eq_getElem (by omega))
    by_cases h2 : 127 < (bs.getD 0 0).toNat ∨ M.pKd bs = 0
    · exact rparse_head b o bs cap w hn hA h2
    · exact rparse_256 b o bs cap w hn hc hA (fun c => h2 (.inl c)) (fun c => h2 (.inr c))
  · exact rparse_long a bs n cap w hn h
theorem rparse_none {bs : List UInt8} (hR : M.readP bs = none) (a : Option Addr) (n cap : Nat) (w : World) (hn : bs.length = n) (hc : n ≤ cap) (hA : At w a bs) : Calls Try.prog 6 #[.slice a n cap] w (fun e w' => ∃ va vc, e = .returned (.tuple #[.agg #[.int .i64 0, .int .u8 0, .slice va 0 vc], .bool false]) ∧ Hid (Adds w w' ∧ (va = none → vc = 0))) := by
  refine (rparse_any a bs n cap w hn hc hA).mono ?_
  rintro e w' ⟨va, vc, hs, rfl, H⟩
  obtain ⟨h1, h2, h3, _⟩ := M.none_all hR
  have h4 := H.out.1
  rw [h3] at h4
  obtain rfl : hs = [] := List.map_eq_nil_iff.1 h4
  exact ⟨va, vc, by rw [h1, h2, hR]; rfl, H.out.2.2.1, H.out.2.1.non⟩
theorem rparse_some {bs : List UInt8} {p : M.Pg} (hR : M.readP bs = some p) (a : Option Addr) (n cap : Nat) (w : World) (hn : bs.length = n) (hc : n ≤ cap) (hA : At w a bs) : Calls Try.prog 6 #[.slice a n cap] w (fun e w' => ∃ va vc, ∃ hs : List Part, e = .returned (.tuple #[.agg #[.int .i64 (p.no : Int), .int .u8 (p.kind.toNat : Int), .slice va p.cells.length vc], .bool true]) ∧ Hid (hs.map (·.bs) = p.cells ∧ GQ w' (fun _ => True) ⟨va, vc, hs⟩ ∧ Adds w w' ∧ hs.length = p.cells.length ∧ p.cells.length ≤ vc)) := by
  refine (rparse_any a bs n cap w hn hc hA).mono ?_
  rintro e w' ⟨va, vc, hs, rfl, H⟩
  obtain ⟨h1, h2, h3, _⟩ := M.some_all hR
  have h4 := H.out.1
  rw [h3] at h4
  have h5 : hs.length = p.cells.length := by rw [← h4, List.length_map]
  exact ⟨va, vc, hs, by rw [h1, h2, hR, h5]; rfl, h4, H.out.2.1, H.out.2.2.1, h5, by rw [← h5]; exact H.out.2.2.2⟩
set_option maxRecDepth 100000 in
set_option maxHeartbeats 1000000 in
theorem rchange_none {bs : List UInt8} (hR : M.readP bs = none) (a : Option Addr) (n cap : Nat) (i : Int) (out : Nat) (iv : Value) (w : World) (hn : bs.length = n) (hc : n ≤ cap) (hA : At w a bs) (ls : List (List UInt8)) :
    Calls Try.prog 15 #[.slice a n cap, .int .i64 i, .int .i64 (out : Int), iv] w (PTold w (M.chgP bs i out ls) (M.chgE bs i out ls)) := by
  have H := hid (rparse_none hR a n cap w hn hc hA)
  have HE := hid (show M.chgP bs i out ls = [] ∧ M.chgE bs i out ls = 22 by rw [M.chgP, M.chgE, hR]; exact ⟨rfl, rfl⟩)
  clear hA hn
  go_enter Try.func15, Try.ntmps15
  go_wp2_with (go_at_call 6; refine H.out.mono ?_; rintro e w1 ⟨va, vc, rfl, H1⟩)
  go_ret2
  exact PTold.nil (H1.out.1.alloc _) HE.out.1 (by rw [HE.out.2]; rfl)
set_option maxRecDepth 100000 in
set_option maxHeartbeats 1000000 in
theorem rchange_out {bs : List UInt8} {p : M.Pg} (hR : M.readP bs = some p) (a : Option Addr) (n cap : Nat) (i : Int) (out : Nat) (ho : out ≤ 1) (iv : Value) (w : World) (hn : bs.length = n) (hc : n ≤ cap) (hA : At w a bs) (ls : List (List UInt8)) (hi : i < 0 ∨ (p.cells.length : Int) - out < i) :
    Calls Try.prog 15 #[.slice a n cap, .int .i64 i, .int .i64 (out : Int), iv] w (PTold w (M.chgP bs i out ls) (M.chgE bs i out ls)) := by
  have H := hid (rparse_some hR a n cap w hn hc hA)
  have HE := hid (show M.chgP bs i out ls = [] ∧ M.chgE bs i out ls = 40 by rw [M.chgP, M.chgE, hR]; simp only; rw [if_pos hi, if_pos hi]; exact ⟨rfl, rfl⟩)
  have hcn := (M.read_ok hR).1.count.1
  generalize hN : p.cells.length = N at *
  clear hA hn hN
  by_cases h0 : i < 0
  · clear hi
    go_enter Try.func15, Try.ntmps15
    go_wp2_with (go_at_call 6; refine H.out.mono ?_; rintro e w1 ⟨va, vc, hs, rfl, hA1⟩; have HA1 := hid hA1.out.2.2.1; clear hA1)
    go_ret2
    exact PTold.nil (HA1.out.alloc _) HE.out.1 (by rw [HE.out.2]; rfl)
  · have h2 : (N : Int) - (out : Int) < i := hi.resolve_left h0
    clear hi
    go_enter Try.func15, Try.ntmps15
    go_wp2_with (go_at_call 6; refine H.out.mono ?_; rintro e w1 ⟨va, vc, hs, rfl, hA1⟩; have HA1 := hid hA1.out.2.2.1; clear hA1)
    go_ret2
    exact PTold.nil (HA1.out.alloc _) HE.out.1 (by rw [HE.out.2]; rfl)
/-- A list of slices in a row of one's own, above C. -/
structure RB (w0 w : World) (C : Nat) (v : Value) (n : Nat) (L : List Part) : Prop where
  row : w.ownsRow C 22 1 v n (L.map PV)
  adds : Adds w0 w
  all : ∀ x ∈ L, PQ w0 (fun _ => True) x
theorem RB.start (w : World) : RB w (w.alloc (.cells #[] 22)) w.heap.size (.slice (some ⟨w.heap.size, 0, none⟩) 0 0) 0 [] :=
  ⟨World.ownsRow_lit (base := w.heap.size) (e := 22) (size := 1) w #[] 0 (Nat.le_refl _) (by decide) rfl, (Touch.refl _ w).alloc _, fun _ h => (by cases h)⟩
theorem RB.more {w0 w w' : World} {v v' : Value} {n m : Nat} {L K : List Part} (h : RB w0 w w0.heap.size v n L) (h1 : w'.ownsRow w0.heap.size 22 1 v' (n + m) (L.map PV ++ K.map PV)) (h2 : w.grownBy w' v.ownBlock) (hK : ∀ x ∈ K, PQ w0 (fun _ => True) x) : ∃ a cap, v' = .slice a (n + m) cap ∧ RB w0 w' w0.heap.size v' (n + m) (L ++ K) := by
  obtain ⟨a, cap, e, _⟩ := own_cq h1
  exact ⟨a, cap, e, ⟨by rw [List.map_append]; exact h1, Touch.grown h.adds h2 (fun k hk hlt => by have := (row_low h.row hk).1; omega), fun x hx => (List.mem_append.1 hx).elim (h.all x) (hK x)⟩⟩
theorem RB.gq {w0 w : World} {a : Option Addr} {n cap : Nat} {L : List Part} {C : Nat} (h : RB w0 w C (.slice a n cap) n L) : GQ w (fun _ => True) ⟨a, cap, L⟩ := by
  obtain ⟨_, _, e, _, hn, hq⟩ := own_cq h.row
  cases e
  exact ⟨hq.mono (fun _ _ _ => trivial), hn, fun x hx => (h.all x hx).adds h.adds⟩
set_option maxRecDepth 100000 in
set_option maxHeartbeats 2000000 in
theorem rchange_in {bs : List UInt8} {p : M.Pg} (hR : M.readP bs = some p) (a : Option Addr) (n cap : Nat) (i out : Nat) (ho : out ≤ 1) (ia : Option Addr) (ins : List Part) (m ic : Nat) (w : World) (hn : bs.length = n) (hc : n ≤ cap) (hA : At w a bs) (hi : i + out ≤ p.cells.length) (hm : ins.length = m) (hm1 : m ≤ 1) (hI : GQ w (fun _ => True) ⟨ia, ic, ins⟩) (hb : M.taken (ins.map (·.bs)) ≤ 1000000000) :
    Calls Try.prog 15 #[.slice a n cap, .int .i64 (i : Int), .int .i64 (out : Int), .slice ia m ic] w (PTold w (M.chgP bs (i : Int) out (ins.map (·.bs))) (M.chgE bs (i : Int) out (ins.map (·.bs)))) := by
  have H := hid (rparse_some hR a n cap w hn hc hA)
  have hok := (M.read_ok hR).1
  have hcn := hok.count.1
  obtain ⟨j, hj⟩ : ∃ j, j = i + out := ⟨_, rfl⟩
  obtain ⟨rl, hrl⟩ : ∃ rl, rl = (M.chgP bs (i : Int) out (ins.map (·.bs))).length := ⟨_, rfl⟩
  obtain ⟨re, hre⟩ : ∃ re, re = M.chgE bs (i : Int) out (ins.map (·.bs)) := ⟨_, rfl⟩
  have HX := hid (And.intro hrl hre)
  have HE := hid (show M.chgP bs (i : Int) out (ins.map (·.bs)) = M.fillP p.no p.kind (p.cells.take i ++ ins.map (·.bs) ++ p.cells.drop j) ∧ M.chgE bs (i : Int) out (ins.map (·.bs)) = M.fillE p.no p.kind (p.cells.take i ++ ins.map (·.bs) ++ p.cells.drop j) by
    have hnn : ¬ ((i : Int) < 0 ∨ (p.cells.length : Int) - (out : Int) < (i : Int)) := by omega
    rw [M.chgP, M.chgE, hR]
    simp only
    rw [if_neg hnn, if_neg hnn, Int.toNat_natCast, hj]
    exact ⟨rfl, rfl⟩)
  have HTk := hid (show M.taken (p.cells.take i ++ ins.map (·.bs) ++ p.cells.drop j) ≤ 1000000000000000 by
    have h1 := M.taken_take p.cells i
    have h2 := M.taken_take p.cells j
    have h3 := hok.room
    rw [M.taken_app, M.taken_app]
    omega)
  have HI := hid (And.intro hI hm)
  have h0 : decide ((i : Int) < 0) = false := by simp
  obtain ⟨N, hN⟩ : ∃ N, N = p.cells.length := ⟨_, rfl⟩
  rw [← hN] at H hcn hi
  have h1 : decide ((N : Int) - (out : Int) < (i : Int)) = false := by simp; omega
  have hwj : (i : Int) + (out : Int) = (j : Int) := by omega
  have hji : i ≤ j ∧ j ≤ N := by omega
  clear hA hn hI hb hm hok hj hN hi hrl hre
  go_enter Try.func15, Try.ntmps15
  go_upto_region 2 with (go_at_call 6; refine H.out.mono ?_; rintro e w1 ⟨va, vc, hs, rfl, H1⟩)
  obtain ⟨wB, hwB⟩ : ∃ wB, wB = w1.alloc (Obj.cells #[Value.int IntKind.i64 (p.no : Int), Value.int IntKind.u8 (p.kind.toNat : Int), Value.slice va N vc] 25) := ⟨_, rfl⟩
  have HB := hid (show wB.heap[w1.heap.size]? = some (Obj.cells #[Value.int IntKind.i64 (p.no : Int), Value.int IntKind.u8 (p.kind.toNat : Int), Value.slice va N vc] 25 (0, 0)) by rw [hwB]; exact heap_alloc_new w1 _)
  have HA := hid (show Adds w1 wB by rw [hwB]; exact (Touch.refl _ w1).alloc _)
  rw [← hwB]
  clear hwB
  generalize w1.heap.size = B at HB ⊢
  have cB2 : wB.cell? ⟨B, 2, none⟩ = some (.slice va N vc) := by have q := cellOf HB.out 2; simpa using q
  have hvc := H1.out.2.2.2.2
  go_upto_region 6 with fail
  clear h0 h1
  have hs1 := run_preB va N vc i (by omega)
  have hs2 := run_sufB va N vc j (by omega)
  have G0 := hid (H1.out.2.1.adds HA.out)
  have I0 := hid (HI.out.1.adds (H1.out.2.2.1.trans HA.out))
  have HLn := hid (show hs.length = N from H1.out.2.2.2.1)
  have HF := hid (fun (za : Option Addr) (zc : Nat) (w6 : World) (R6 : RB wB w6 wB.heap.size (.slice za (i + m + (N - j)) zc) (i + m + (N - j)) (hs.take i ++ ins ++ hs.drop j)) => show Calls Try.prog 20 #[.int .i64 (p.no : Int), .int .u8 (p.kind.toNat : Int), .slice za (i + m + (N - j)) zc] w6 (PTold4 w6 (M.chgP bs (i : Int) out (ins.map (·.bs))) rl re) by
    have eL : (hs.take i ++ ins ++ hs.drop j).map (·.bs) = p.cells.take i ++ ins.map (·.bs) ++ p.cells.drop j := by rw [List.map_append, List.map_append, List.map_take, List.map_drop, H1.out.1]
    have q := rfill_any (p.no : Int) p.kind za (hs.take i ++ ins ++ hs.drop j) (i + m + (N - j)) zc (by rw [List.length_append, List.length_append, List.length_take, List.length_drop, HLn.out, HI.out.2]; omega) w6 R6.gq (by rw [eL]; exact HTk.out)
    rw [eL, ← HE.out.1, ← HE.out.2] at q
    rw [HX.out.1, HX.out.2]
    exact q)
  have cA2 : ∀ o, (wB.alloc o).cell? ⟨B, 2, none⟩ = some (.slice va N vc) := fun o => below_adds ((Touch.refl _ wB).alloc o) cB2
  go_wp2_with (first
    | (at_builtin; refine append_bm rfl _ _ rfl wB.heap.size (.slice ya (i + m) yc) (i + m) ((hs.take i ++ ins).map PV) rfl R5.out.row (sufAt va vc j) (N - j) (vc - j) ((hs.drop j).map PV) (by rw [List.length_map, List.length_drop, HLn.out]) rfl (G0.out.suf j (by show hs.length ≤ vc; rw [HLn.out]; exact hvc)).non ((G0.out.suf j (by show hs.length ≤ vc; rw [HLn.out]; exact hvc)).at_.adds R5.out.adds) (one_PV _) (by omega) R5.out.adds.size ?_
       intro v6 w6 hv6 hg6
       obtain ⟨za, zc, rfl, hR6⟩ := R5.out.more hv6 hg6 (fun x hx => G0.out.all x (List.mem_of_mem_drop hx))
       have R6 := hid hR6
       clear hR6 hv6 hg6 c5
       have c60 : w6.cell? ⟨B, 0, none⟩ = some (.int .i64 (p.no : Int)) := below_adds R6.out.adds (by have q := cellOf HB.out 0; simpa using q)
       have c61 : w6.cell? ⟨B, 1, none⟩ = some (.int .u8 (p.kind.toNat : Int)) := below_adds R6.out.adds (by have q := cellOf HB.out 1; simpa using q))
    | (at_builtin; refine append_bm rfl _ _ rfl wB.heap.size (.slice xa i xc) i ((hs.take i).map PV) rfl R4.out.row ia m ic (ins.map PV) (by rw [List.length_map, HI.out.2]) rfl I0.out.non (I0.out.at_.adds R4.out.adds) (one_PV _) (by omega) R4.out.adds.size ?_
       intro v5 w5 hv5 hg5
       obtain ⟨ya, yc, rfl, hR5⟩ := R4.out.more hv5 hg5 I0.out.all
       have R5 := hid hR5
       clear hR5 hv5 hg5
       have c5 : w5.cell? ⟨B, 2, none⟩ = some (.slice va N vc) := below_adds R5.out.adds cB2)
    | (at_builtin; refine append_bm rfl _ _ rfl wB.heap.size (.slice (some ⟨wB.heap.size, 0, none⟩) 0 0) 0 [] rfl (RB.start wB).row va i vc ((hs.take i).map PV) (by rw [List.length_map, List.length_take, HLn.out]; omega) rfl G0.out.non ((G0.out.pre i).at_.adds (RB.start wB).adds) (one_PV _) (by omega) (RB.start wB).adds.size ?_
       intro v4 w4 hv4 hg4
       obtain ⟨xa, xc, rfl, hR4⟩ := (RB.start wB).more hv4 hg4 (fun x hx => G0.out.all x (List.mem_of_mem_take hx))
       rw [Nat.zero_add] at hR4
       have R4 := hid hR4
       rw [Nat.zero_add]
       clear hR4 hv4 hg4)
    | (go_at_call 20; refine (HF.out za zc _ R6.out).mono ?_; rintro e w7 ⟨ra, rc, rfl, H7⟩))
  go_ret2
  exact ⟨ra, rc, by rw [← HX.out.1, ← HX.out.2]; rfl, H7.out.1, by rw [← HX.out.1]; exact H7.out.2.1, ⟨H7.out.2.2.1.1, fun b o e => Nat.le_trans ((H1.out.2.2.1.trans HA.out).trans R6.out.adds).size (H7.out.2.2.1.2 b o e)⟩, (((H1.out.2.2.1.trans HA.out).trans R6.out.adds).trans H7.out.2.2.2)⟩
theorem rchange_any (a : Option Addr) (bs : List UInt8) (n cap : Nat) (i : Int) (out : Nat) (ho : out ≤ 1) (ia : Option Addr) (ins : List Part) (m ic : Nat) (w : World) (hn : bs.length = n) (hc : n ≤ cap) (hA : At w a bs) (hm : ins.length = m) (hm1 : m ≤ 1) (hI : GQ w (fun _ => True) ⟨ia, ic, ins⟩) (hb : M.taken (ins.map (·.bs)) ≤ 1000000000) :
    Calls Try.prog 15 #[.slice a n cap, .int .i64 i, .int .i64 (out : Int), .slice ia m ic] w (PTold w (M.chgP bs i out (ins.map (·.bs))) (M.chgE bs i out (ins.map (·.bs)))) := by
  cases hR : M.readP bs with
  | none => exact rchange_none hR a n cap i out _ w hn hc hA _
  | some p =>
    by_cases hi : i < 0 ∨ (p.cells.length : Int) - out < i
    · exact rchange_out hR a n cap i out ho _ w hn hc hA _ hi
    · obtain ⟨k, rfl⟩ : ∃ k : Nat, i = (k : Int) := ⟨i.toNat, by omega⟩
      exact rchange_in hR a n cap k out ho ia ins m ic w hn hc hA (by omega) hm hm1 hI hb
set_option maxRecDepth 100000 in
set_option maxHeartbeats 1000000 in
theorem free9 {Q : Nat → Prop} (no : Int) (kd : Int) (ok : Bool) (a : Option Addr) (hs : List Part) (n cap : Nat) (hn : hs.length = n) (w : World) (h : GQ w Q ⟨a, cap, hs⟩) (tk : Nat) (htk : tk = M.taken (hs.map (·.bs))) (hl : tk ≤ 1000000000) (z : Int) (hz : z = if ok = false ∨ 242 < tk then -1 else 242 - (tk : Int)) :
    Calls Try.prog 10 #[.agg #[.int .i64 no, .int .u8 kd, .slice a n cap], .bool ok] w (Adding (.int .i64 z) w) := by
  have HL := hid (fun (w' : World) (hw : Adds w w') => rtaken_any a hs n cap hn w' (h.adds hw) tk htk (by omega))
  clear h htk
  cases ok with
  | false =>
    rw [if_pos (.inl rfl)] at hz
    subst hz
    go_enter Try.func10, Try.ntmps10
    go_wp2_with (go_at_call 28; refine (HL.out _ ((Touch.refl _ w).alloc _)).mono ?_; rintro e w1 ⟨rfl, hw⟩; rw [hw]; clear hw)
    go_ret
    exact ⟨rfl, (Touch.refl _ w).alloc _⟩
  | true =>
    by_cases h4 : 242 < tk
    · rw [if_pos (.inr h4)] at hz
      subst hz
      have h4b : decide ((244 : Int) - (tk : Int) - 2 < 0) = true := by simp; omega
      go_enter Try.func10, Try.ntmps10
      go_wp2_with (go_at_call 28; refine (HL.out _ ((Touch.refl _ w).alloc _)).mono ?_; rintro e w1 ⟨rfl, hw⟩; rw [hw]; clear hw)
      go_ret
      exact ⟨rfl, (Touch.refl _ w).alloc _⟩
    · rw [if_neg (fun c => by rcases c with c | c; cases c; exact h4 c)] at hz
      subst hz
      have h4b : decide ((242 : Int) - (tk : Int) < 0) = false := by simp; omega
      go_enter Try.func10, Try.ntmps10
      go_wp2_with (go_at_call 28; refine (HL.out _ ((Touch.refl _ w).alloc _)).mono ?_; rintro e w1 ⟨rfl, hw⟩; rw [hw]; clear hw)
      go_ret
      exact ⟨by rw [← show (244 : Int) - (tk : Int) - 2 = 242 - (tk : Int) by omega]; rfl, (Touch.refl _ w).alloc _⟩
end Go.Proofs.Ytidkmamjhpckgaa
