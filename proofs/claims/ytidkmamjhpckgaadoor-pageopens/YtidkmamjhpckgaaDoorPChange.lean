/- A page with cells taken out and put in: page.change, Insert, Replace, Remove. -/
import Derived.Test.YtidkmamjhpckgaaDoorPFill
namespace Go.Proofs.YtidkmamjhpckgaaDoor
open Go.RowKit

set_option maxRecDepth 100000 in
theorem szB (w : World) : (sizeOf 22).run Tryd.prog w = .ok 1 w := by kernel_rfl
set_option maxRecDepth 100000 in
theorem eB : Tryd.prog.elem 32 = 22 := by kernel_rfl
set_option maxRecDepth 100000 in
theorem run_preB (a : Option Addr) (len cap n : Nat) (hn : n ≤ cap) (w : World) : (Instr.sliceAt 32 (.slice a len cap) none (some (.int .i64 (n : Int))) none).run Tryd.prog w = .ok (.slice a n cap) w := by
  rw [run_sliceAt_slice w 32 _ _ _ _ Tryd.underlying32, run_slice_h w 32 a len cap Tryd.underlying32 .i64 n (by omega) (by omega)]
  rw [eB, szB]
  simp only [Result.andThen, sliced, Int.toNat_natCast, Nat.zero_mul, Nat.sub_zero]
  congr 2
  split
  · rfl
  · cases a <;> rfl
set_option maxRecDepth 100000 in
theorem run_sufB (a : Option Addr) (len cap n : Nat) (hn : n ≤ len) (w : World) : (Instr.sliceAt 32 (.slice a len cap) (some (.int .i64 (n : Int))) none none).run Tryd.prog w = .ok (.slice (sufAt a cap n) (len - n) (cap - n)) w := by
  rw [run_sliceAt_slice w 32 _ _ _ _ Tryd.underlying32, run_slice_l w 32 a len cap Tryd.underlying32 .i64 n (by omega) (by omega)]
  rw [eB, szB]
  simp only [Result.andThen, sliced, Int.toNat_natCast, Nat.mul_one]
  rfl
set_option maxRecDepth 100000 in
theorem CQ.pre {w : World} {Q : Nat → Prop} {a : Option Addr} {xs : List Value} (h : CQ w Q a xs) (n : Nat) : CQ w Q a (xs.take n) := by
  intro j u hj
  rw [List.getElem?_take] at hj
  split at hj
  · exact h j u hj
  · cases hj
set_option maxRecDepth 100000 in
theorem CQ.suf {w : World} {Q : Nat → Prop} {a : Option Addr} {xs : List Value} (h : CQ w Q a xs) (cap n : Nat) (hc : xs.length ≤ cap) : CQ w Q (sufAt a cap n) (xs.drop n) := by
  unfold sufAt
  by_cases hn : cap = n
  · rw [List.drop_eq_nil_of_le (by omega)]; exact CQ.nil _ _ _
  · rw [if_neg hn]
    intro j u hj
    rw [List.getElem?_drop] at hj
    obtain ⟨b, o, rfl, hq, hcell⟩ := h _ u hj
    exact ⟨b, o + n, by simp [Addr.add_mid], hq, by rw [Nat.add_assoc]; exact hcell⟩
theorem GQ.pre {w : World} {Q : Nat → Prop} {a : Option Addr} {cap : Nat} {hs : List Part} (h : GQ w Q ⟨a, cap, hs⟩) (n : Nat) : GQ w Q ⟨a, cap, hs.take n⟩ :=
  ⟨by have q := h.at_.pre n; rw [← List.map_take] at q; exact q, h.non, fun x hx => h.all x (List.mem_of_mem_take hx)⟩
set_option maxRecDepth 100000 in
theorem GQ.suf {w : World} {Q : Nat → Prop} {a : Option Addr} {cap : Nat} {hs : List Part} (h : GQ w Q ⟨a, cap, hs⟩) (n : Nat) (hc : hs.length ≤ cap) : GQ w Q ⟨sufAt a cap n, cap - n, hs.drop n⟩ := by
  refine ⟨by have q := h.at_.suf cap n (by rw [List.length_map]; exact hc); rw [← List.map_drop] at q; exact q, fun e => ?_, fun x hx => h.all x (List.mem_of_mem_drop hx)⟩
  have e' : sufAt a cap n = none := e
  unfold sufAt at e'
  by_cases hn : cap = n
  · show cap - n = 0
    omega
  · rw [if_neg hn] at e'
    have ha : a = none := by cases a with | none => rfl | some x => cases e'
    have : cap = 0 := h.non ha
    show cap - n = 0
    omega
/-- What Concat tells, where it lies. -/
def PCon (w : World) (L : List Part) (e : Ending) (w' : World) : Prop := ∃ ca cc, e = .returned (.slice ca L.length cc) ∧ Hid (GQ w' (fun _ => True) ⟨ca, cc, L⟩ ∧ True ∧ Adds w w')
def PTold4 (w : World) (cs : List UInt8) (rl re : Nat) (e : Ending) (w' : World) : Prop := ∃ ra rc, e = .returned (.tuple #[.slice ra rl rc, .int .i64 (re : Int)]) ∧ Hid (At w' ra cs ∧ rl ≤ rc ∧ ((ra = none → rc = 0) ∧ ∀ b o, ra = some ⟨b, o, none⟩ → w.heap.size ≤ b) ∧ Adds w w')
set_option maxRecDepth 100000 in
theorem con_of {w : World} {g : Nat} {L : List Pl} (hL : L.length ≤ 1000) (hf : (flatB L).length ≤ 10000000) (hP : GParts w g L) : Calls Tryd.prog 48 #[.slice (some ⟨g, 0, none⟩) L.length L.length] w (PCon w (flatB L)) := by
  refine (concatB_any g L w hL hf hP).mono ?_
  rintro e w' ⟨v, rfl, h1, h2⟩
  obtain ⟨a, cap, rfl, _, hn, hq⟩ := own_cq h1
  refine ⟨a, cap, rfl, ⟨hq.mono (fun _ _ _ => trivial), hn, fun x hx => ?_⟩, trivial, h2⟩
  obtain ⟨l, hl, hx2⟩ := List.mem_flatten.1 hx
  obtain ⟨y, hy, rfl⟩ := List.mem_map.1 hl
  obtain ⟨k, hk⟩ := List.mem_iff_getElem?.1 hy
  exact ((hP k y hk).2.all x hx2).adds h2
set_option maxRecDepth 100000 in
set_option maxHeartbeats 1000000 in
theorem change_none {bs : List UInt8} (hR : M.readP bs = none) (a : Option Addr) (n cap : Nat) (i : Int) (out : Nat) (iv : Value) (w : World) (hn : bs.length = n) (hc : n ≤ cap) (hA : At w a bs) (ls : List (List UInt8)) :
    Calls Tryd.prog 39 #[.slice a n cap, .int .i64 i, .int .i64 (out : Int), iv] w (PTold w (M.chgP bs i out ls) (M.chgE bs i out ls)) := by
  have H := hid (gread_none hR a n cap w hn hc hA)
  have HE := hid (show M.chgP bs i out ls = [] ∧ M.chgE bs i out ls = 22 by rw [M.chgP, M.chgE, hR]; exact ⟨rfl, rfl⟩)
  clear hA hn
  go_enter Tryd.func39, Tryd.ntmps39
  go_wp2_with (go_at_call 14; refine H.out.mono ?_; rintro e w1 ⟨va, vc, rfl, hA1⟩; have HA1 := hid hA1; clear hA1)
  go_ret2
  exact PTold.nil (HA1.out.alloc _) HE.out.1 (by rw [HE.out.2]; rfl)
set_option maxRecDepth 100000 in
set_option maxHeartbeats 1000000 in
theorem change_out {bs : List UInt8} {p : M.Pg} (hR : M.readP bs = some p) (a : Option Addr) (n cap : Nat) (i : Int) (out : Nat) (ho : out ≤ 1) (iv : Value) (w : World) (hn : bs.length = n) (hc : n ≤ cap) (hA : At w a bs) (ls : List (List UInt8)) (hi : i < 0 ∨ (p.cells.length : Int) - out < i) :
    Calls Tryd.prog 39 #[.slice a n cap, .int .i64 i, .int .i64 (out : Int), iv] w (PTold w (M.chgP bs i out ls) (M.chgE bs i out ls)) := by
  have H := hid (gread_some hR a n cap w hn hc hA)
  have HE := hid (show M.chgP bs i out ls = [] ∧ M.chgE bs i out ls = 40 by rw [M.chgP, M.chgE, hR]; simp only; rw [if_pos hi, if_pos hi]; exact ⟨rfl, rfl⟩)
  have hcn := (M.read_ok hR).1.count.1
  generalize hN : p.cells.length = N at *
  clear hA hn hN
  by_cases h0 : i < 0
  · clear hi
    go_enter Tryd.func39, Tryd.ntmps39
    go_wp2_with (go_at_call 14; refine H.out.mono ?_; rintro e w1 ⟨va, vc, hs, rfl, hA1⟩; have HA1 := hid hA1.out.2.2.1; clear hA1)
    go_ret2
    exact PTold.nil (HA1.out.alloc _) HE.out.1 (by rw [HE.out.2]; rfl)
  · have h2 : (N : Int) - (out : Int) < i := hi.resolve_left h0
    clear hi
    go_enter Tryd.func39, Tryd.ntmps39
    go_wp2_with (go_at_call 14; refine H.out.mono ?_; rintro e w1 ⟨va, vc, hs, rfl, hA1⟩; have HA1 := hid hA1.out.2.2.1; clear hA1)
    go_ret2
    exact PTold.nil (HA1.out.alloc _) HE.out.1 (by rw [HE.out.2]; rfl)
set_option maxRecDepth 100000 in
set_option maxHeartbeats 2000000 in
theorem change_in {bs : List UInt8} {p : M.Pg} (hR : M.readP bs = some p) (a : Option Addr) (n cap : Nat) (i out : Nat) (ho : out ≤ 1) (ia : Option Addr) (ins : List Part) (m ic : Nat) (w : World) (hn : bs.length = n) (hc : n ≤ cap) (hA : At w a bs) (hi : i + out ≤ p.cells.length) (hm : ins.length = m) (hm1 : m ≤ 1) (hI : GQ w (fun _ => True) ⟨ia, ic, ins⟩) (hb : ∀ x ∈ ins, x.bs.length ≤ 1000000000000000) :
    Calls Tryd.prog 39 #[.slice a n cap, .int .i64 (i : Int), .int .i64 (out : Int), .slice ia m ic] w (PTold w (M.chgP bs (i : Int) out (ins.map (·.bs))) (M.chgE bs (i : Int) out (ins.map (·.bs)))) := by
  have H := hid (gread_some hR a n cap w hn hc hA)
  have hok := (M.read_ok hR).1
  have hcn := hok.count.1
  obtain ⟨j, hj⟩ : ∃ j, j = i + out := ⟨_, rfl⟩
  obtain ⟨rl, hrl⟩ : ∃ rl, rl = (M.chgP bs (i : Int) out (ins.map (·.bs))).length := ⟨_, rfl⟩
  obtain ⟨re, hre⟩ : ∃ re, re = M.chgE bs (i : Int) out (ins.map (·.bs)) := ⟨_, rfl⟩
  have HE := hid (show M.chgP bs (i : Int) out (ins.map (·.bs)) = M.fillP p.no p.kind (p.cells.take i ++ ins.map (·.bs) ++ p.cells.drop j) ∧ M.chgE bs (i : Int) out (ins.map (·.bs)) = M.fillE p.no p.kind (p.cells.take i ++ ins.map (·.bs) ++ p.cells.drop j) by
    have hnn : ¬ ((i : Int) < 0 ∨ (p.cells.length : Int) - (out : Int) < (i : Int)) := by omega
    rw [M.chgP, M.chgE, hR]
    simp only
    rw [if_neg hnn, if_neg hnn, Int.toNat_natCast, hj]
    exact ⟨rfl, rfl⟩)
  have HI := hid (And.intro hI (And.intro hb (And.intro hm hok)))
  have HX := hid (And.intro hrl hre)
  have h0 : decide ((i : Int) < 0) = false := by simp
  have h1 : decide ((p.cells.length : Int) - (out : Int) < (i : Int)) = false := by simp; omega
  have hwj : IntKind.i64.wrap ((i : Int) + (out : Int)) = (j : Int) := by rw [IntKind.wrap_i64]; omega
  have hji : i ≤ j ∧ j ≤ p.cells.length := by omega
  clear hA hn hI hb hrl hre hm hok hj
  go_enter Tryd.func39, Tryd.ntmps39
  go_upto_region 2 with (go_at_call 14; refine H.out.mono ?_; rintro e w1 ⟨va, vc, hs, rfl, H1⟩)
  obtain ⟨wB, hwB⟩ : ∃ wB, wB = w1.alloc (Obj.cells #[Value.int IntKind.i64 (p.no : Int), Value.int IntKind.u8 (p.kind.toNat : Int), Value.slice va p.cells.length vc] 42) := ⟨_, rfl⟩
  have HB' := hid (show wB.heap[w1.heap.size]? = some (Obj.cells #[Value.int IntKind.i64 (p.no : Int), Value.int IntKind.u8 (p.kind.toNat : Int), Value.slice va p.cells.length vc] 42 (0, 0)) by rw [hwB]; exact heap_alloc_new w1 _)
  have HA := hid (show Adds w1 wB by rw [hwB]; exact (Touch.refl _ w1).alloc _)
  rw [← hwB]
  clear hwB
  generalize w1.heap.size = B at HB' ⊢
  have HB := HB'
  have cB2 : wB.cell? ⟨B, 2, none⟩ = some (.slice va p.cells.length vc) := by have q := cellOf HB.out 2; simpa using q
  have hvc := H1.out.2.2.2.2
  go_upto_region 6 with fail
  clear cB2 h0 h1
  have hs1 := run_preB va p.cells.length vc i (by omega)
  have hs2 := run_sufB va p.cells.length vc j (by omega)
  obtain ⟨L, hL⟩ : ∃ L, L = hs.take i ++ (ins ++ (hs.drop j ++ [])) := ⟨_, rfl⟩
  obtain ⟨cn, hcnl⟩ : ∃ cn, cn = L.length := ⟨_, rfl⟩
  have HLb := hid (show L.map (·.bs) = p.cells.take i ++ ins.map (·.bs) ++ p.cells.drop j by
    rw [hL, List.append_nil, List.map_append, List.map_append, List.map_take, List.map_drop, H1.out.1, List.append_assoc])
  have HLl := hid (show L.length ≤ 1000 by rw [hL]; simp only [List.length_append, List.length_take, List.length_drop, List.length_nil, HI.out.2.2.1, H1.out.2.2.2.1]; omega)
  have HC := hid (show Calls Tryd.prog 48 #[.slice (some ⟨wB.heap.size, 0, none⟩) 3 3] (wB.drew.alloc (.cells #[.slice va i vc, .slice ia m ic, .slice (sufAt va vc j) (p.cells.length - j) (vc - j)] 32)) (PCon (wB.drew.alloc (.cells #[.slice va i vc, .slice ia m ic, .slice (sufAt va vc j) (p.cells.length - j) (vc - j)] 32)) L) by
    have hP : GParts (wB.drew.alloc (.cells #[.slice va i vc, .slice ia m ic, .slice (sufAt va vc j) (p.cells.length - j) (vc - j)] 32)) wB.heap.size [⟨va, vc, hs.take i⟩, ⟨ia, ic, ins⟩, ⟨sufAt va vc j, vc - j, hs.drop j⟩] := by
      have hA1 : Adds w1 (wB.drew.alloc (.cells #[.slice va i vc, .slice ia m ic, .slice (sufAt va vc j) (p.cells.length - j) (vc - j)] 32)) := HA.out.trans ((Touch.refl _ wB).drew.alloc _)
      have hbx := heap_alloc_new wB.drew (.cells #[.slice va i vc, .slice ia m ic, .slice (sufAt va vc j) (p.cells.length - j) (vc - j)] 32)
      have l1 : (hs.take i).length = i := by rw [List.length_take, H1.out.2.2.2.1]; omega
      have l2 : (hs.drop j).length = p.cells.length - j := by rw [List.length_drop, H1.out.2.2.2.1]
      intro q x hq
      match q, hq with
      | 0, hq => obtain rfl := Option.some.inj hq; exact ⟨by have c := cellOf hbx 0; rw [show (wB.drew.heap.size) = wB.heap.size from rfl] at c; rw [c]; simp [l1], (H1.out.2.1.adds hA1).pre i⟩
      | 1, hq => obtain rfl := Option.some.inj hq; exact ⟨by have c := cellOf hbx 1; rw [show (wB.drew.heap.size) = wB.heap.size from rfl] at c; rw [c]; simp [HI.out.2.2.1], HI.out.1.adds (H1.out.2.2.1.trans hA1)⟩
      | 2, hq => obtain rfl := Option.some.inj hq; exact ⟨by have c := cellOf hbx 2; rw [show (wB.drew.heap.size) = wB.heap.size from rfl] at c; rw [c]; simp [l2], (H1.out.2.1.adds hA1).suf j (by rw [H1.out.2.2.2.1]; exact hvc)⟩
      | q + 3, hq => simp at hq
    have e : flatB [(⟨va, vc, hs.take i⟩ : Pl), ⟨ia, ic, ins⟩, ⟨sufAt va vc j, vc - j, hs.drop j⟩] = L := by rw [hL]; rfl
    have c := con_of (by simp) (by rw [e]; have := HLl.out; omega) hP
    rw [e] at c
    exact c)
  rw [show PCon (wB.drew.alloc (.cells #[.slice va i vc, .slice ia m ic, .slice (sufAt va vc j) (p.cells.length - j) (vc - j)] 32)) L = (fun e w' => ∃ ca cc, e = .returned (.slice ca cn cc) ∧ Hid (GQ w' (fun _ => True) ⟨ca, cc, L⟩ ∧ True ∧ Adds (wB.drew.alloc (.cells #[.slice va i vc, .slice ia m ic, .slice (sufAt va vc j) (p.cells.length - j) (vc - j)] 32)) w')) by rw [hcnl]; rfl] at HC
  have HF := hid (fun w3 ca cc (h3 : Hid (GQ w3 (fun _ => True) ⟨ca, cc, L⟩ ∧ True ∧ Adds (wB.drew.alloc (.cells #[.slice va i vc, .slice ia m ic, .slice (sufAt va vc j) (p.cells.length - j) (vc - j)] 32)) w3)) => show Calls Tryd.prog 12 #[.int .i64 (p.no : Int), .int .u8 (p.kind.toNat : Int), .slice ca cn cc] w3 (PTold4 w3 (M.chgP bs (i : Int) out (ins.map (·.bs))) rl re) by
    refine (gfill_any (p.no : Int) p.kind ca L cn cc hcnl.symm w3 h3.out.1 (fun x hx => ?_) (by have := HLl.out; omega)).mono ?_
    · have hx2 : x.bs ∈ p.cells ∨ x ∈ ins := by
        rw [hL, List.append_nil] at hx
        rcases List.mem_append.1 hx with c | c
        · exact .inl (by rw [← H1.out.1]; exact List.mem_map_of_mem (List.mem_of_mem_take c))
        · rcases List.mem_append.1 c with c | c
          · exact .inr c
          · exact .inl (by rw [← H1.out.1]; exact List.mem_map_of_mem (List.mem_of_mem_drop c))
      rcases hx2 with c | c
      · have := cell_len HI.out.2.2.2 c; omega
      · exact HI.out.2.1 x c
    · rintro e w4 ⟨ra, rc, rfl, H4⟩
      rw [HLb.out, ← HE.out.1] at H4
      refine ⟨ra, rc, by rw [HLb.out, ← HE.out.1, ← HE.out.2, ← HX.out.1, ← HX.out.2], ?_⟩
      rw [HX.out.1]
      exact H4)
  clear hL hcnl
  refine H_begin (S := fun (w' : World) => w'.heap[B]? = some (.cells #[.int .i64 (p.no : Int), .int .u8 (p.kind.toNat : Int), .slice va p.cells.length vc] 42 (0, 0))) (by kernel_rfl) ?_
  have hS : (fun (w' : World) => w'.heap[B]? = some (.cells #[.int .i64 (p.no : Int), .int .u8 (p.kind.toNat : Int), .slice va p.cells.length vc] 42 (0, 0))) wB.drew := HB.out
  refine H_put (i := 0) 33 (v := .pointer (some ⟨B, 0, none⟩)) rfl rfl (by kernel_rfl) (by kernel_rfl) (by kernel_rfl) (fun _ _ _ h => h) (Or.inl ⟨by rfl, fun w' hw' => ?_⟩) hS ?_
  · go_simp
  simp only [Act.put, List.setIfInBounds_toArray, List.set_cons_zero, List.set_cons_succ]
  refine H_put (i := 1) 34 (v := .int .i64 (p.no : Int)) rfl rfl (by kernel_rfl) (by kernel_rfl) (by kernel_rfl) (fun _ _ _ h => h) (Or.inl ⟨by rfl, fun w' hw' => ?_⟩) hS ?_
  · have c : w'.cell? ⟨B, 0, none⟩ = some (.int .i64 (p.no : Int)) := cellOf (hw') 0; go_simp
  simp only [Act.put, List.setIfInBounds_toArray, List.set_cons_zero, List.set_cons_succ]
  refine H_put (i := 2) 35 (v := .pointer (some ⟨B, 1, none⟩)) rfl rfl (by kernel_rfl) (by kernel_rfl) (by kernel_rfl) (fun _ _ _ h => h) (Or.inl ⟨by rfl, fun w' hw' => ?_⟩) hS ?_
  · go_simp
  simp only [Act.put, List.setIfInBounds_toArray, List.set_cons_zero, List.set_cons_succ]
  refine H_put (i := 3) 36 (v := .int .u8 (p.kind.toNat : Int)) rfl rfl (by kernel_rfl) (by kernel_rfl) (by kernel_rfl) (fun _ _ _ h => h) (Or.inl ⟨by rfl, fun w' hw' => ?_⟩) hS ?_
  · have c : w'.cell? ⟨B, 1, none⟩ = some (.int .u8 (p.kind.toNat : Int)) := cellOf (hw') 1; go_simp
  simp only [Act.put, List.setIfInBounds_toArray, List.set_cons_zero, List.set_cons_succ]
  refine H_put (i := 4) 37 (v := .pointer (some ⟨B, 2, none⟩)) rfl rfl (by kernel_rfl) (by kernel_rfl) (by kernel_rfl) (fun _ _ _ h => h) (Or.inl ⟨by rfl, fun w' hw' => ?_⟩) hS ?_
  · go_simp
  simp only [Act.put, List.setIfInBounds_toArray, List.set_cons_zero, List.set_cons_succ]
  refine H_put (i := 5) 38 (v := .slice va p.cells.length vc) rfl rfl (by kernel_rfl) (by kernel_rfl) (by kernel_rfl) (fun _ _ _ h => h) (Or.inl ⟨by rfl, fun w' hw' => ?_⟩) hS ?_
  · have c : w'.cell? ⟨B, 2, none⟩ = some (.slice va p.cells.length vc) := cellOf (hw') 2; go_simp
  simp only [Act.put, List.setIfInBounds_toArray, List.set_cons_zero, List.set_cons_succ]
  refine H_put (i := 6) 39 (v := .int .i64 (i : Int)) rfl rfl (by kernel_rfl) (by kernel_rfl) (by kernel_rfl) (fun _ _ _ h => h) (Or.inl ⟨by rfl, fun w' hw' => ?_⟩) hS ?_
  · go_simp
  simp only [Act.put, List.setIfInBounds_toArray, List.set_cons_zero, List.set_cons_succ]
  refine H_put (i := 7) 40 (v := .slice va i vc) rfl rfl (by kernel_rfl) (by kernel_rfl) (by kernel_rfl) (fun _ _ _ h => h) (Or.inl ⟨by rfl, fun w' hw' => ?_⟩) hS ?_
  · go_simp
  simp only [Act.put, List.setIfInBounds_toArray, List.set_cons_zero, List.set_cons_succ]
  refine H_put (i := 8) 41 (v := .slice ia m ic) rfl rfl (by kernel_rfl) (by kernel_rfl) (by kernel_rfl) (fun _ _ _ h => h) (Or.inl ⟨by rfl, fun w' hw' => ?_⟩) hS ?_
  · go_simp
  simp only [Act.put, List.setIfInBounds_toArray, List.set_cons_zero, List.set_cons_succ]
  refine H_put (i := 9) 42 (v := .pointer (some ⟨B, 2, none⟩)) rfl rfl (by kernel_rfl) (by kernel_rfl) (by kernel_rfl) (fun _ _ _ h => h) (Or.inl ⟨by rfl, fun w' hw' => ?_⟩) hS ?_
  · go_simp
  simp only [Act.put, List.setIfInBounds_toArray, List.set_cons_zero, List.set_cons_succ]
  refine H_put (i := 10) 43 (v := .slice va p.cells.length vc) rfl rfl (by kernel_rfl) (by kernel_rfl) (by kernel_rfl) (fun _ _ _ h => h) (Or.inl ⟨by rfl, fun w' hw' => ?_⟩) hS ?_
  · have c : w'.cell? ⟨B, 2, none⟩ = some (.slice va p.cells.length vc) := cellOf (hw') 2; go_simp
  simp only [Act.put, List.setIfInBounds_toArray, List.set_cons_zero, List.set_cons_succ]
  refine H_put (i := 11) 44 (v := .int .i64 (i : Int)) rfl rfl (by kernel_rfl) (by kernel_rfl) (by kernel_rfl) (fun _ _ _ h => h) (Or.inl ⟨by rfl, fun w' hw' => ?_⟩) hS ?_
  · go_simp
  simp only [Act.put, List.setIfInBounds_toArray, List.set_cons_zero, List.set_cons_succ]
  refine H_put (i := 12) 45 (v := .int .i64 (out : Int)) rfl rfl (by kernel_rfl) (by kernel_rfl) (by kernel_rfl) (fun _ _ _ h => h) (Or.inl ⟨by rfl, fun w' hw' => ?_⟩) hS ?_
  · go_simp
  simp only [Act.put, List.setIfInBounds_toArray, List.set_cons_zero, List.set_cons_succ]
  refine H_put (i := 13) 46 (v := .int .i64 (j : Int)) rfl rfl (by kernel_rfl) (by kernel_rfl) (by kernel_rfl) (fun _ _ _ h => h) (Or.inl ⟨by rfl, fun w' hw' => ?_⟩) hS ?_
  · go_simp
  simp only [Act.put, List.setIfInBounds_toArray, List.set_cons_zero, List.set_cons_succ]
  refine H_put (i := 14) 47 (v := .slice (sufAt va vc j) (p.cells.length - j) (vc - j)) rfl rfl (by kernel_rfl) (by kernel_rfl) (by kernel_rfl) (fun _ _ _ h => h) (Or.inl ⟨by rfl, fun w' hw' => ?_⟩) hS ?_
  · go_simp
  simp only [Act.put, List.setIfInBounds_toArray, List.set_cons_zero, List.set_cons_succ]
  refine H_do (i := 15) (some 48) (by kernel_rfl) rfl rfl (by rfl) (fun K hK => ?_)
  go_simp
  have hS2 : (fun (w' : World) => w'.heap[B]? = some (.cells #[.int .i64 (p.no : Int), .int .u8 (p.kind.toNat : Int), .slice va p.cells.length vc] 42 (0, 0))) _ := ((Touch.refl (fun _ => False) wB).drew.alloc (.cells #[.slice va i vc, .slice ia m ic, .slice (sufAt va vc j) (p.cells.length - j) (vc - j)] 32)).at' HB.out id
  refine hK (.slice (some ⟨wB.heap.size, 0, none⟩) 3 3) _ hS2 ?_
  clear hK K hS; have hS := hS2; clear hS2
  simp only [Act.put, List.setIfInBounds_toArray, List.set_cons_zero, List.set_cons_succ]
  refine H_call (i := 16) 49 48 #[.slice (some ⟨wB.heap.size, 0, none⟩) 3 3] (R := (fun e w' => ∃ ca cc, e = .returned (.slice ca cn cc) ∧ Hid (GQ w' (fun _ => True) ⟨ca, cc, L⟩ ∧ True ∧ Adds (wB.drew.alloc (.cells #[.slice va i vc, .slice ia m ic, .slice (sufAt va vc j) (p.cells.length - j) (vc - j)] 32)) w'))) (by kernel_rfl) rfl rfl (by rfl) (by go_simp) ?_ ?_
  · exact HC.out
  rintro e w3 ⟨ca, cc, rfl, H3⟩
  have hS2 : (fun (w' : World) => w'.heap[B]? = some (.cells #[.int .i64 (p.no : Int), .int .u8 (p.kind.toNat : Int), .slice va p.cells.length vc] 42 (0, 0))) _ := Touch.at' H3.out.2.2 hS id
  refine ⟨_, _, rfl, hS2, fun w' h => h, ?_⟩
  clear hS; have hS := hS2; clear hS2
  simp only [Act.put, List.setIfInBounds_toArray, List.set_cons_zero, List.set_cons_succ]
  refine H_call (i := 17) 50 12 #[.int .i64 (p.no : Int), .int .u8 (p.kind.toNat : Int), .slice ca cn cc] (R := PTold4 w3 (M.chgP bs (i : Int) out (ins.map (·.bs))) rl re) (by kernel_rfl) rfl rfl (by rfl) (by go_simp) ?_ ?_
  · exact HF.out w3 ca cc H3
  rintro e w4 ⟨ra, rc, rfl, H4⟩
  have hS2 : (fun (w' : World) => w'.heap[B]? = some (.cells #[.int .i64 (p.no : Int), .int .u8 (p.kind.toNat : Int), .slice va p.cells.length vc] 42 (0, 0))) _ := Touch.at' H4.out.2.2.2 hS id
  refine ⟨_, _, rfl, hS2, fun w' h => h, ?_⟩
  clear hS; have hS := hS2; clear hS2
  simp only [Act.put, List.setIfInBounds_toArray, List.set_cons_zero, List.set_cons_succ]
  refine H_put (i := 18) 51 (v := .slice ra rl rc) rfl rfl (by kernel_rfl) (by kernel_rfl) (by kernel_rfl) (fun _ _ _ h => h) (Or.inl ⟨by rfl, fun w' hw' => ?_⟩) hS ?_
  · go_simp
  simp only [Act.put, List.setIfInBounds_toArray, List.set_cons_zero, List.set_cons_succ]
  refine H_put (i := 19) 52 (v := .int .i64 (re : Int)) rfl rfl (by kernel_rfl) (by kernel_rfl) (by kernel_rfl) (fun _ _ _ h => h) (Or.inl ⟨by rfl, fun w' hw' => ?_⟩) hS ?_
  · go_simp
  simp only [Act.put, List.setIfInBounds_toArray, List.set_cons_zero, List.set_cons_succ]
  refine H_put (i := 20) 8 (v := .slice ra rl rc) rfl rfl (by kernel_rfl) (by kernel_rfl) (by kernel_rfl) (fun _ _ _ h => h) (Or.inl ⟨by rfl, fun w' hw' => ?_⟩) hS ?_
  · go_simp
  simp only [Act.put, List.setIfInBounds_toArray, List.set_cons_zero, List.set_cons_succ]
  refine H_put (i := 21) 9 (v := .int .i64 (re : Int)) rfl rfl (by kernel_rfl) (by kernel_rfl) (by kernel_rfl) (fun _ _ _ h => h) (Or.inl ⟨by rfl, fun w' hw' => ?_⟩) hS ?_
  · go_simp
  simp only [Act.put, List.setIfInBounds_toArray, List.set_cons_zero, List.set_cons_succ]
  refine wpAnyH_done (by kernel_rfl) ?_ _
  go_wp2_with fail
  go_ret2
  refine ⟨ra, rc, by rw [← HX.out.1, ← HX.out.2]; rfl, H4.out.1, by rw [← HX.out.1]; exact H4.out.2.1, ⟨H4.out.2.2.1.1, fun b o e => Nat.le_trans (((H1.out.2.2.1.trans HA.out).trans ((Touch.refl _ wB).drew.alloc _)).trans H3.out.2.2).size (H4.out.2.2.1.2 b o e)⟩, ?_⟩
  exact (((H1.out.2.2.1.trans HA.out).trans ((Touch.refl _ wB).drew.alloc _)).trans H3.out.2.2).trans H4.out.2.2.2
set_option maxRecDepth 100000 in
theorem gchange_any (a : Option Addr) (bs : List UInt8) (n cap : Nat) (i : Int) (out : Nat) (ho : out ≤ 1) (ia : Option Addr) (ins : List Part) (m ic : Nat) (w : World) (hn : bs.length = n) (hc : n ≤ cap) (hA : At w a bs) (hm : ins.length = m) (hm1 : m ≤ 1) (hI : GQ w (fun _ => True) ⟨ia, ic, ins⟩) (hb : ∀ x ∈ ins, x.bs.length ≤ 1000000000000000) :
    Calls Tryd.prog 39 #[.slice a n cap, .int .i64 i, .int .i64 (out : Int), .slice ia m ic] w (PTold w (M.chgP bs i out (ins.map (·.bs))) (M.chgE bs i out (ins.map (·.bs)))) := by
  cases hR : M.readP bs with
  | none => exact change_none hR a n cap i out _ w hn hc hA _
  | some p =>
    by_cases hi : i < 0 ∨ (p.cells.length : Int) - out < i
    · exact change_out hR a n cap i out ho _ w hn hc hA _ hi
    · obtain ⟨k, rfl⟩ : ∃ k : Nat, i = (k : Int) := ⟨i.toNat, by omega⟩
      exact change_in hR a n cap k out ho ia ins m ic w hn hc hA (by omega) hm hm1 hI hb
end Go.Proofs.YtidkmamjhpckgaaDoor
