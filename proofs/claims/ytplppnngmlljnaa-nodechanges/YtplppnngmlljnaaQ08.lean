/- Texts put together: PFill, PChange, PCalls, PCalls2. -/
import Derived.Test.YtplppnngmlljnaaQ07
/- A page of cells, or none: page.Fill, page.New. -/
namespace Go.Proofs.Ytplppnngmlljnaa
open Go.RowKit

/-- Bytes, and why none. -/
def PTold (w : World) (cs : List UInt8) (er : Nat) (e : Ending) (w' : World) : Prop := ∃ a cap, e = .returned (.tuple #[.slice a cs.length cap, .int .i64 (er : Int)]) ∧ Hid (At w' a cs ∧ cs.length ≤ cap ∧ ((a = none → cap = 0) ∧ ∀ b o, a = some ⟨b, o, none⟩ → w.heap.size ≤ b) ∧ Adds w w')
set_option maxRecDepth 100000 in
theorem PTold.nil {w w' : World} {cs : List UInt8} {er : Nat} {z : Int} (hA : Adds w w') (h1 : cs = []) (h2 : (er : Int) = z) : PTold w cs er (.returned (.tuple #[.slice none 0 0, .int .i64 z])) w' := by
  subst h1
  subst h2
  exact ⟨none, 0, rfl, At.nil _ _, Nat.le_refl _, ⟨fun _ => rfl, fun _ _ e => (by cases e)⟩, hA⟩
set_option maxRecDepth 100000 in
theorem fillE_inv {no : Int} {kd : UInt8} {l : List (List UInt8)} (h : no < 0 ∨ 2147483647 < no ∨ kd = 0) : M.fillP no kd l = [] ∧ M.fillE no kd l = 2 := by
  rw [M.fillP, M.fillE, if_pos h, if_pos h]; exact ⟨rfl, rfl⟩
set_option maxRecDepth 100000 in
set_option maxHeartbeats 1000000 in
theorem gfill_any (no : Int) (kd : UInt8) (a : Option Addr) (hs : List Part) (n cap : Nat) (hn : hs.length = n) (w : World) (h : GQ w (fun _ => True) ⟨a, cap, hs⟩) (hb : ∀ x ∈ hs, x.bs.length ≤ 1000000000000000) (hl : n ≤ 1000000000000000) :
    Calls Try.prog 33 #[.int .i64 no, .int .u8 (kd.toNat : Int), .slice a n cap] w (PTold w (M.fillP no kd (hs.map (·.bs))) (M.fillE no kd (hs.map (·.bs)))) := by
  have HG := hid h
  have HL := hid (gleft_any a hs n cap hn w h hb hl)
  have HN := hid hn
  clear h hb hn
  by_cases h1 : no < 0
  · have HE := hid (fillE_inv (l := hs.map (·.bs)) (kd := kd) (.inl h1))
    go_enter Try.func33, Try.ntmps33
    go_wp2_with fail
    go_ret2
    exact PTold.nil (Touch.refl _ _) HE.out.1 (by rw [HE.out.2]; rfl)
  · by_cases h2 : 2147483647 < no
    · have HE := hid (fillE_inv (l := hs.map (·.bs)) (kd := kd) (.inr (.inl h2)))
      go_enter Try.func33, Try.ntmps33
      go_wp2_with fail
      go_ret2
      exact PTold.nil (Touch.refl _ _) HE.out.1 (by rw [HE.out.2]; rfl)
    · by_cases h3 : kd = 0
      · have HE := hid (fillE_inv (l := hs.map (·.bs)) (no := no) (.inr (.inr h3)))
        have h3' : (kd.toNat : Int) = 0 := by rw [h3]; rfl
        clear h3
        go_enter Try.func33, Try.ntmps33
        go_wp2_with fail
        go_ret2
        exact PTold.nil (Touch.refl _ _) HE.out.1 (by rw [HE.out.2]; rfl)
      · have h3' : ¬ (kd.toNat : Int) = 0 := fun e => h3 (UInt8.toNat_inj.1 (by simpa using (show kd.toNat = 0 by omega)))
        have hnn : ¬ (no < 0 ∨ 2147483647 < no ∨ kd = 0) := fun c => by rcases c with c | c | c; exact h1 c; exact h2 c; exact h3 c
        by_cases h4 : 244 < M.taken (hs.map (·.bs))
        · have HE := hid (show M.fillP no kd (hs.map (·.bs)) = [] ∧ M.fillE no kd (hs.map (·.bs)) = 32 by rw [M.fillP, M.fillE, if_neg hnn, if_neg hnn, if_pos h4, if_pos h4]; exact ⟨rfl, rfl⟩)
          clear hnn h3
          go_enter Try.func33, Try.ntmps33
          go_wp2_with (go_at_call 62; refine HL.out.mono ?_; rintro e w1 ⟨z, rfl, hw, hz⟩; rw [hw]; clear hw; have hz2 := hz.out.2 h4; clear hz)
          go_ret2
          exact PTold.nil (Touch.refl _ _) HE.out.1 (by rw [HE.out.2]; rfl)
        · obtain ⟨nn, rfl⟩ : ∃ nn : Nat, no = (nn : Int) := ⟨no.toNat, by omega⟩
          have HE := hid (show M.fillP (nn : Int) kd (hs.map (·.bs)) = M.pbytes ⟨nn, kd, hs.map (·.bs)⟩ ∧ M.fillE (nn : Int) kd (hs.map (·.bs)) = 0 by rw [M.fillP, M.fillE, if_neg hnn, if_neg hnn, if_neg h4, if_neg h4]; exact ⟨rfl, rfl⟩)
          have HT := hid h4
          have h1b : decide ((nn : Int) < 0) = false := by simp
          have h3b : ((kd.toNat : Int) == 0) = false := by simpa using h3'
          clear hnn h3 h1
          go_enter Try.func33, Try.ntmps33
          go_wp2_with (first
            | (go_at_call 62; refine HL.out.mono ?_; rintro e w1 ⟨z, rfl, hw, hz⟩; rw [hw]; clear hw; have hz2 : ¬ z < 0 := by (have q := hz.out.1 (by omega); omega)
               clear hz)
            | (go_at_call 63; refine (gpage_any nn kd a hs n cap HN.out _ (HG.out.adds ((Touch.refl _ w).alloc _)) (by omega) (by have := HT.out; omega)).mono ?_; rintro e w2 ⟨g, rfl, H2⟩))
          go_ret2
          have hA : Adds w w2 := ((Touch.refl _ w).alloc _).trans H2.out.2.2
          have hlen := M.len_pbytes (p := ⟨nn, kd, hs.map (·.bs)⟩) (by have q := HT.out; show M.taken (hs.map (·.bs)) ≤ 244; omega)
          refine ⟨some ⟨g, 0, none⟩, 256, by rw [HE.out.1, HE.out.2, hlen]; rfl, by rw [HE.out.1]; exact H2.out.2.1.at, by rw [HE.out.1, hlen]; exact Nat.le_refl _, ⟨fun e => (by cases e), fun b o e => by cases e; have h := H2.out.1; simp at h; omega⟩, hA⟩
end Go.Proofs.Ytplppnngmlljnaa

/- A page with cells taken out and put in: page.change, Insert, Replace, Remove. -/
namespace Go.Proofs.Ytplppnngmlljnaa
open Go.RowKit

set_option maxRecDepth 100000 in
theorem szB (w : World) : (sizeOf 30).run Try.prog w = .ok 1 w := by kernel_rfl
set_option maxRecDepth 100000 in
theorem eB : Try.prog.elem 23 = 30 := by kernel_rfl
set_option maxRecDepth 100000 in
theorem run_preB (a : Option Addr) (len cap n : Nat) (hn : n ≤ cap) (w : World) : (Instr.sliceAt 23 (.slice a len cap) none (some (.int .i64 (n : Int))) none).run Try.prog w = .ok (.slice a n cap) w := by
  rw [run_sliceAt_slice w 23 _ _ _ _ Try.underlying23, run_slice_h w 23 a len cap Try.underlying23 .i64 n (by omega) (by omega)]
  rw [eB, szB]
  simp only [Result.andThen, sliced, Int.toNat_natCast, Nat.zero_mul, Nat.sub_zero]
  congr 2
  split
  · rfl
  · cases a <;> rfl
set_option maxRecDepth 100000 in
theorem run_sufB (a : Option Addr) (len cap n : Nat) (hn : n ≤ len) (w : World) : (Instr.sliceAt 23 (.slice a len cap) (some (.int .i64 (n : Int))) none none).run Try.prog w = .ok (.slice (sufAt a cap n) (len - n) (cap - n)) w := by
  rw [run_sliceAt_slice w 23 _ _ _ _ Try.underlying23, run_slice_l w 23 a len cap Try.underlying23 .i64 n (by omega) (by omega)]
  rw [eB, szB]
  simp only [Result.andThen, sliced, Int.toNat_natCast, Nat.mul_one]
  rfl
set_option maxRecDepth 100000 in
theorem CQ.pre {w : World} {Q : Nat → Prop} {a : Option Addr} {xs : List Value} (h : CQ w Q a xs) (n : Nat) : CQ w Q a (xs.take n) := by
  intro j u hj
  rw [List.getElem?_take] at hj
  split at hj
  · exact h j u hj
  · cases hj
set_option maxRecDepth 100000 in
theorem CQ.suf {w : World} {Q : Nat → Prop} {a : Option Addr} {xs : List Value} (h : CQ w Q a xs) (cap n : Nat) (hc : xs.length ≤ cap) : CQ w Q (sufAt a cap n) (xs.drop n) := by
  unfold sufAt
  by_cases hn : cap = n
  · rw [List.drop_eq_nil_of_le (by omega)]; exact CQ.nil _ _ _
  · rw [if_neg hn]
    intro j u hj
    rw [List.getElem?_drop] at hj
    obtain ⟨b, o, rfl, hq, hcell⟩ := h _ u hj
    exact ⟨b, o + n, by simp [Addr.add_mid], hq, by rw [Nat.add_assoc]; exact hcell⟩
theorem GQ.pre {w : World} {Q : Nat → Prop} {a : Option Addr} {cap : Nat} {hs : List Part} (h : GQ w Q ⟨a, cap, hs⟩) (n : Nat) : GQ w Q ⟨a, cap, hs.take n⟩ :=
  ⟨by have q := h.at_.pre n; rw [← List.map_take] at q; exact q, h.non, fun x hx => h.all x (List.mem_of_mem_take hx)⟩
set_option maxRecDepth 100000 in
theorem GQ.suf {w : World} {Q : Nat → Prop} {a : Option Addr} {cap : Nat} {hs : List Part} (h : GQ w Q ⟨a, cap, hs⟩) (n : Nat) (hc : hs.length ≤ cap) : GQ w Q ⟨sufAt a cap n, cap - n, hs.drop n⟩ := by
  refine ⟨by have q := h.at_.suf cap n (by rw [List.length_map]; exact hc); rw [← List.map_drop] at q; exact q, fun e => ?_, fun x hx => h.all x (List.mem_of_mem_drop hx)⟩
  have e' : sufAt a cap n = none := e
  unfold sufAt at e'
  by_cases hn : cap = n
  · show cap - n = 0
    omega
  · rw [if_neg hn] at e'
    have ha : a = none := by cases a with | none => rfl | some x => cases e'
    have : cap = 0 := h.non ha
    show cap - n = 0
    omega
end Go.Proofs.Ytplppnngmlljnaa

/- Kind, Count, Free, Get, Cells, Insert, Replace, Remove of a page. -/
namespace Go.Proofs.Ytplppnngmlljnaa
open Go.RowKit

namespace M
end M
set_option maxRecDepth 100000 in
set_option maxHeartbeats 400000 in
theorem gkind_any (a : Option Addr) (bs : List UInt8) (n cap : Nat) (w : World) (hn : bs.length = n) (hc : n ≤ cap) (hA : At w a bs) : Calls Try.prog 44 #[.slice a n cap] w (Adding (.int .u8 ((M.kindP bs).toNat : Int)) w) := by
  cases hR : M.readP bs with
  | none =>
    have H := hid (gread_none hR a n cap w hn hc hA)
    have HE := hid (M.none_all hR).2.1
    clear hA hn hR
    go_enter Try.func44, Try.ntmps44
    go_wp2_with (go_at_call 73; refine H.out.mono ?_; rintro e w1 ⟨va, vc, rfl, hA1⟩; have HA1 := hid hA1; clear hA1)
    go_ret
    exact ⟨by rw [HE.out]; rfl, HA1.out.alloc _⟩
  | some p =>
    have H := hid (gread_some hR a n cap w hn hc hA)
    have HE := hid (M.some_all hR).2.1
    clear hA hn hR
    go_enter Try.func44, Try.ntmps44
    go_wp2_with (go_at_call 73; refine H.out.mono ?_; rintro e w1 ⟨va, vc, hs, rfl, hA1⟩; have HA1 := hid hA1.out.2.2.1; clear hA1)
    go_ret
    exact ⟨by rw [HE.out]; rfl, HA1.out.alloc _⟩
end Go.Proofs.Ytplppnngmlljnaa

/- Get, Cells, Insert, Replace, Remove of a page. -/
namespace Go.Proofs.Ytplppnngmlljnaa
open Go.RowKit

set_option maxRecDepth 100000 in
theorem clone_own (a : Option Addr) (bs : List UInt8) (n cap : Nat) (hn : bs.length = n) (w : World) (hl : n ≤ 1000000) (hcap : a = none → cap = 0) (hA : At w a bs) : Calls Try.prog 74 #[.slice a n cap] w (POwn w bs) := by
  subst hn
  cases a with
  | none =>
    obtain rfl := hcap rfl
    obtain rfl : bs = [] := by
      cases bs with
      | nil => rfl
      | cons c bs => obtain ⟨b, o', e, _⟩ := hA 0 c rfl; cases e
    refine (clone_nil w).mono ?_
    rintro e w' ⟨rfl, rfl⟩
    exact ⟨_, rfl, World.ownsRow_nil _ _ _ _, Touch.refl _ _⟩
  | some ad => exact clone_some ad bs cap w hl hA
/-- Bytes of one's own, and why none. -/
def PGot (w : World) (cs : List UInt8) (er : Nat) (e : Ending) (w' : World) : Prop := ∃ ga gc, e = .returned (.tuple #[.slice ga cs.length gc, .int .i64 (er : Int)]) ∧ Hid (w'.ownsRow w.heap.size 5 1 (.slice ga cs.length gc) cs.length (S cs) ∧ Adds w w')
set_option maxRecDepth 100000 in
theorem PGot.nil {w w' : World} {cs : List UInt8} {er : Nat} {z : Int} (hA : Adds w w') (h1 : cs = []) (h2 : (er : Int) = z) : PGot w cs er (.returned (.tuple #[.slice none 0 0, .int .i64 z])) w' := by
  subst h1
  subst h2
  exact ⟨none, 0, rfl, World.ownsRow_nil _ _ _ _, hA⟩
/-- Cells that are told. -/
def PCells (w : World) (ls : List (List UInt8)) (e : Ending) (w' : World) : Prop := ∃ ca cc, ∃ hs : List Part, e = .returned (.slice ca ls.length cc) ∧ Hid (hs.map (·.bs) = ls ∧ GQ w' (fun k => w.heap.size ≤ k) ⟨ca, cc, hs⟩ ∧ Adds w w' ∧ ls.length ≤ cc)
set_option maxRecDepth 100000 in
set_option maxHeartbeats 1000000 in
theorem gcells_any (a : Option Addr) (bs : List UInt8) (n cap : Nat) (w : World) (hn : bs.length = n) (hc : n ≤ cap) (hA : At w a bs) : Calls Try.prog 45 #[.slice a n cap] w (PCells w (M.cellsP bs)) := by
  have HR := hid (gread_any a bs n cap w hn hc hA)
  have HL := hid (show (∀ c ∈ M.cellsP bs, c.length ≤ 244) ∧ (M.cellsP bs).length ≤ 122 by
    cases hR : M.readP bs with
    | none => rw [(M.none_all hR).2.2.1]; exact ⟨fun c h => (by cases h), by decide⟩
    | some p => rw [(M.some_all hR).2.2.1]; exact ⟨fun c h => cell_len (M.read_ok hR).1 h, (M.read_ok hR).1.count.1⟩)
  clear hA hn
  go_enter Try.func45, Try.ntmps45
  go_upto_region 2 with (go_at_call 73; refine HR.out.mono ?_; rintro e w1 ⟨va, vc, hs, rfl, H1⟩)
  obtain ⟨N, hN⟩ : ∃ N, N = hs.length := ⟨_, rfl⟩
  have hN122 : N ≤ 122 := by rw [hN, ← List.length_map (f := (·.bs)), H1.out.1]; exact HL.out.2
  have HN := hid hN
  rw [← hN]
  clear hN
  have hmk := make_cells N (by omega)
  obtain ⟨wB, hwB⟩ : ∃ wB, wB = w1.alloc (Obj.cells #[Value.int IntKind.i64 (M.noP bs : Int), Value.int IntKind.u8 ((M.kindP bs).toNat : Int), Value.slice va N vc] 98) := ⟨_, rfl⟩
  have HB := hid (show wB.heap[w1.heap.size]? = some (Obj.cells #[Value.int IntKind.i64 (M.noP bs : Int), Value.int IntKind.u8 ((M.kindP bs).toNat : Int), Value.slice va N vc] 98 (0, 0)) by rw [hwB]; exact heap_alloc_new w1 _)
  have HA := hid (show Adds w1 wB by rw [hwB]; exact (Touch.refl _ w1).alloc _)
  rw [← hwB]
  clear hwB
  have cB2 : wB.cell? ⟨w1.heap.size, 2, none⟩ = some (.slice va N vc) := by have q := cellOf HB.out 2; simpa using q
  have cB3 : (wB.alloc (.cells (madeCells #[.slice none 0 0] N) 30)).cell? ⟨w1.heap.size, 2, none⟩ = some (.slice va N vc) := below_adds ((Touch.refl _ wB).alloc _) cB2
  have HO := hid (show (wB.alloc (.cells (madeCells #[.slice none 0 0] N) 30)).ownsRow 0 30 1 (.slice (some ⟨wB.heap.size, 0, none⟩) 0 N) 0 [] from World.ownsRow_made (base := 0) (e := 30) (size := 1) wB (madeCells #[.slice none 0 0] N) N (Nat.zero_le _) (by unfold maxLen; omega) (by rw [size_madeCells, Nat.mul_one]))
  go_wp2_with fail
  clear cB2 cB3 hmk
  go_loopw [5, 20] (fun v i wr => ∃ (k : Nat) (ts : List Part), k ≤ N ∧ i = .int .i64 (k : Int) ∧ ts.length = k ∧ Hid (Fresh w1.heap.size wr v ts ∧ ts.map (·.bs) = (hs.map (·.bs)).take k ∧ Adds w1 wr)) (fun _ i _ => N - (intOf i).toNat)
  case atStart =>
    refine ⟨0, [], Nat.zero_le _, rfl, rfl, ⟨HO.out, fun j hj => ?_, fun x hx => (by cases hx)⟩, rfl, HA.out.alloc _⟩
    simp [Value.ownBlock] at hj
    subst hj
    exact HA.out.size
  case round =>
    obtain ⟨k, ts, hk, rfl, hlen, HI⟩ := hrel
    by_cases hlt : k < N
    · obtain ⟨y, b, o, hy, hq, ha, hcell⟩ := part_get H1.out.2.1 (k := k) (by show k < hs.length; rw [← HN.out]; exact hlt)
      have ha' : va = some ⟨b, o, none⟩ := ha
      subst ha'
      have hcr : wr.cell? ⟨b, o + k, none⟩ = some (.slice y.a y.bs.length y.cap) := below_adds HI.out.2.2 hcell
      have hyl : y.bs.length ≤ 244 := HL.out.1 _ (by rw [← H1.out.1]; exact List.mem_map_of_mem (List.mem_of_getElem? hy))
      have HC := hid (clone_own y.a y.bs y.bs.length y.cap rfl wr (by omega) hq.non (hq.at_.at.adds HI.out.2.2))
      have HY := hid (show ((hs.map (·.bs)).take (k + 1)) = (hs.map (·.bs)).take k ++ [y.bs] by rw [List.take_add_one, List.getElem?_map, hy]; rfl)
      have HT := hid hlen
      generalize hyl0 : y.bs.length = yl at *
      have HYL := hid hyl0
      clear hy hq ha hcell hlen hyl0
      go_wp2_with (first
        | (go_at_call 74; refine HC.out.mono ?_; rintro e w3 ⟨v3, rfl, h1, h2⟩; rw [HYL.out] at h1; obtain ⟨ga, gc, hv, _, hgn, hgq⟩ := own_cq h1; subst hv
           have H3 := hid (And.intro h1 (And.intro h2 (And.intro hgn hgq)))
           have HA3 := hid (fun o => show (w3.alloc o).ownsRow 0 30 1 u5 k (ts.map PV) by have q := row_touch (row_touch HI.out.1.rows h2 (fun _ _ => id)) ((Touch.refl _ w3).alloc o) (fun _ _ => id); rw [HT.out] at q; exact q)
           clear h1 h2 hgn hgq)
        | (at_builtin; refine append_b1 rfl _ _ rfl u5 k (ts.map PV) rfl (HA3.out _) w3.heap.size (.slice ga yl gc) rfl (cellOf (heap_alloc_new w3 _) 0) rfl (by omega) ?_; intro v5 w5 G5; have HG := hid G5; clear G5))
      go_roundw
      case rel =>
        have hF3 := HI.out.1.touch H3.out.2.1 (fun _ _ => id)
        have hsz := HI.out.2.2.size
        have hsz3 := H3.out.2.1.size
        have hG := HG.out
        refine ⟨k + 1, ts ++ [⟨ga, y.bs, gc⟩], by omega, by go_num, by simp [HT.out], ?_, ?_, ?_⟩
        · refine hF3.more ((Touch.refl _ w3).alloc _) (by rw [HT.out]; show Grew _ _ _ _ _ _ (_ ++ [.slice ga y.bs.length gc]); rw [HYL.out]; exact hG) (by omega) ⟨(H3.out.2.2.2.mono (fun j _ c => ?_)).adds ((Touch.refl _ w3).alloc _), H3.out.2.2.1⟩
          have h1 := (row_low H3.out.1 c).1
          exact ⟨by omega, fun c2 => by have := (row_low HI.out.1.rows c2).2; omega⟩
        · rw [List.map_append, HI.out.2.1, HY.out]; rfl
        · exact ((HI.out.2.2.trans H3.out.2.1).alloc _).then hG.touch (fun j hj c => by have := HI.out.1.own j c; omega)
      case measure => simp [intOf]; omega
    · obtain rfl : N = k := by omega
      obtain ⟨ca, cc, hv5, hle, hcn, hcq⟩ := own_cq HI.out.1.rows
      have HQ := hid (And.intro hle (And.intro hcn hcq))
      subst hv5
      rw [hlen]
      clear hle hcn hcq
      go_wp2_with fail
      go_ret
      have hF := HI.out.1
      have hw1 : w.heap.size ≤ w1.heap.size := H1.out.2.2.1.size
      have hts : ts.map (·.bs) = M.cellsP bs := by rw [HI.out.2.1, List.take_of_length_le (by rw [List.length_map, ← HN.out]; exact Nat.le_refl _), H1.out.1]
      have hll : (M.cellsP bs).length = N := by rw [← hts, List.length_map, hlen]
      refine ⟨ca, cc, ts, by rw [hll]; rfl, hts, ⟨HQ.out.2.2.mono (fun j _ c => by have := hF.own j c; omega), HQ.out.2.1, fun x hx => (hF.data x hx).mono (fun j _ c => by omega)⟩, H1.out.2.2.1.trans HI.out.2.2, by have := HQ.out.1; omega⟩
set_option maxRecDepth 100000 in
theorem PTold.more {w w1 : World} {cs : List UInt8} {er : Nat} (hA : Adds w w1) {e : Ending} {w' : World} (h : PTold w1 cs er e w') : PTold w cs er e w' := by
  obtain ⟨a, cap, he, H⟩ := h
  exact ⟨a, cap, he, H.out.1, H.out.2.1, ⟨H.out.2.2.1.1, fun b o e => Nat.le_trans hA.size (H.out.2.2.1.2 b o e)⟩, hA.trans H.out.2.2.2⟩
end Go.Proofs.Ytplppnngmlljnaa
