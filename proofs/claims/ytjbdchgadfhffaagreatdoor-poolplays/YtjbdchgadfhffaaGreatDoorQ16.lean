/- Texts put together: DSpFacts, DRef5. -/
import Derived.Test.YtjbdchgadfhffaaGreatDoorQ15
import Derived.Laws.Concat
import Derived.Laws.Slices
import Derived.Test.YtjbdchgadfhffaaGreatDoorQ10
import Derived.Deep.DeepCutAuto
/- Facts on what Spoil leaves, and on strings as lists of bytes. -/
namespace Go.Proofs.YtjbdchgadfhffaaGreatDoor
open Go.RowKit

/-- One waiting write, behind a Spoil. -/
def spf (i : Int) (a : Nat) (b : UInt8) (x : Int × List UInt8) : Int × List UInt8 := if x.1 = i then (x.1, x.2.set a b) else x
/-- The first k behind f, the others as they were. -/
def spTo (f : Int × List UInt8 → Int × List UInt8) (W : List (Int × List UInt8)) (k : Nat) : List (Int × List UInt8) := (W.take k).map f ++ W.drop k
/-- The state behind a Spoil. -/
def dSt.spoiled (D : dSt) (i : Int) (a : Nat) (b : UInt8) : dSt := { D with H := upd D.H i ((D.H i).set a b), W := D.W.map (spf i a b) }

set_option maxRecDepth 100000 in
theorem spTo_zero (f : Int × List UInt8 → Int × List UInt8) (W : List (Int × List UInt8)) : spTo f W 0 = W := by simp [spTo]
set_option maxRecDepth 100000 in
theorem spTo_all (f : Int × List UInt8 → Int × List UInt8) (W : List (Int × List UInt8)) : spTo f W W.length = W.map f := by simp [spTo]
set_option maxRecDepth 100000 in
theorem spTo_len (f : Int × List UInt8 → Int × List UInt8) (W : List (Int × List UInt8)) (k : Nat) (h : k ≤ W.length) : (spTo f W k).length = W.length := by simp [spTo]; omega
set_option maxRecDepth 100000 in
theorem spTo_get (f : Int × List UInt8 → Int × List UInt8) (W : List (Int × List UInt8)) (k : Nat) (h : k < W.length) : (spTo f W k)[k]? = some W[k] := by
  unfold spTo
  rw [List.getElem?_append_right (by simp; omega), List.length_map, List.length_take, Nat.min_eq_left (by omega), Nat.sub_self, List.getElem?_drop, Nat.add_zero, List.getElem?_eq_getElem h]
set_option maxRecDepth 100000 in
theorem spTo_succ (f : Int × List UInt8 → Int × List UInt8) (W : List (Int × List UInt8)) (k : Nat) (h : k < W.length) : spTo f W (k + 1) = (spTo f W k).set k (f W[k]) := by
  unfold spTo
  rw [List.set_append_right _ _ (by simp; omega), List.length_map, List.length_take, Nat.min_eq_left (by omega), Nat.sub_self, List.drop_eq_getElem_cons h, List.set_cons_zero, List.take_add_one, List.getElem?_eq_getElem h, Option.toList_some, List.map_append, List.append_assoc]
  rfl
set_option maxRecDepth 100000 in
theorem spTo_same (f : Int × List UInt8 → Int × List UInt8) (W : List (Int × List UInt8)) (k : Nat) (h : k < W.length) (e : f W[k] = W[k]) : spTo f W (k + 1) = spTo f W k := by
  rw [spTo_succ f W k h, e]
  apply List.ext_getElem?
  intro j
  rw [List.getElem?_set]
  split
  · next hj => subst hj; rw [if_pos (by rw [spTo_len f W _ (by omega)]; exact h), spTo_get f W _ h]
  · rfl

set_option maxRecDepth 100000 in
theorem rflat_set : ∀ (W : List (Int × List UInt8)) (k : Nat) (x : Int × List UInt8) (bs : List UInt8), W[k]? = some x → (rflat W).set (k * 2 + 1) (Str bs) = rflat (W.set k (x.1, bs))
  | [], k, x, bs, h => by simp at h
  | y :: W, 0, x, bs, h => by
    obtain rfl : y = x := by simpa using h
    simp [rflat, rcells]
  | y :: W, k + 1, x, bs, h => by
    have ih := rflat_set W k x bs (by simpa using h)
    simp only [rflat, List.flatMap_cons, List.set_cons_succ] at ih ⊢
    rw [List.set_append_right _ _ (by simp [rcells]; omega), show (k + 1) * 2 + 1 - (rcells y).length = k * 2 + 1 from (by show (k + 1) * 2 + 1 - 2 = _; omega), ih]
set_option maxRecDepth 100000 in
theorem flat_set : ∀ (W : List (Int × List UInt8)), (∀ x ∈ W, x.2.length = 256) → ∀ (k : Nat) (x : Int × List UInt8) (a : Nat) (b : UInt8), a < 256 → W[k]? = some x → (dflat W).set (k * 257 + 1 + a) (B8 b) = dflat (W.set k (x.1, x.2.set a b))
  | [], _, k, x, a, b, _, h => by simp at h
  | y :: W, hg, 0, x, a, b, ha, h => by
    obtain rfl : y = x := by simpa using h
    have hl := hg y List.mem_cons_self
    simp only [dflat, List.flatMap_cons, List.set_cons_zero]
    rw [List.set_append_left _ _ (by rw [length_wcells y hl]; omega)]
    congr 1
    simp only [wcells, show 0 * 257 + 1 + a = a + 1 by omega, List.set_cons_succ, S, List.map_set]
  | y :: W, hg, k + 1, x, a, b, ha, h => by
    have hl := hg y List.mem_cons_self
    have ih := flat_set W (fun z hz => hg z (List.mem_cons_of_mem _ hz)) k x a b ha (by simpa using h)
    simp only [dflat, List.flatMap_cons, List.set_cons_succ] at ih ⊢
    rw [List.set_append_right _ _ (by rw [length_wcells y hl]; omega), length_wcells y hl, show (k + 1) * 257 + 1 + a - 257 = k * 257 + 1 + a by omega, ih]

set_option maxRecDepth 100000 in
theorem set_join (bs : List UInt8) (a : Nat) (b : UInt8) (h : a < bs.length) : bs.take a ++ [b] ++ bs.drop (a + 1) = bs.set a b := by
  rw [List.set_eq_take_append_cons_drop, if_pos h]; simp

set_option maxRecDepth 100000 in
theorem sl_to (bs : List UInt8) (n : Nat) (h : n ≤ bs.length) (w : World) : (Instr.slice 9 (Str bs) none (some (.int .i64 (n : Int))) none).run Tryz.prog w = .ok (Str (bs.take n)) w := by
  have hs : (⟨bs.toArray⟩ : ByteArray).size = bs.length := by simp [ByteArray.size]
  rw [Str, run_slice_string_h w 9 _ Tryz.underlying9 .i64 (n : Int) (by omega) (by rw [hs]; omega)]
  congr 2
  apply ByteArray.ext
  simp [ByteArray.data_extract]
set_option maxRecDepth 100000 in
theorem sl_from (bs : List UInt8) (n : Nat) (h : n ≤ bs.length) (w : World) : (Instr.slice 9 (Str bs) (some (.int .i64 (n : Int))) none none).run Tryz.prog w = .ok (Str (bs.drop n)) w := by
  have hs : (⟨bs.toArray⟩ : ByteArray).size = bs.length := by simp [ByteArray.size]
  rw [Str, run_slice_string_l w 9 _ Tryz.underlying9 .i64 (n : Int) (by omega) (by rw [hs]; omega)]
  congr 2
  apply ByteArray.ext
  simp [ByteArray.data_extract, hs, List.take_of_length_le]
set_option maxRecDepth 100000 in
theorem str_cat (a b : List UInt8) (ha : a.length ≤ 1000) (hb : b.length ≤ 1000) (w : World) : (binOp .add 9 (Str a) (Str b)).run Tryz.prog w = .ok (Str (a ++ b)) w := by
  rw [Str, Str, binOp_string_add]
  exact run_string_add_lists w a b (by omega) (by omega)

end Go.Proofs.YtjbdchgadfhffaaGreatDoor

/- The reference's Spoil. -/
namespace Go.Proofs.YtjbdchgadfhffaaGreatDoor
open Go.RowKit

/-- What the reference's Spoil leaves. -/
def PRSpoil (w : World) (B p : Nat) (hv wv : Value) (D : dSt) (i : Int) (a : Nat) (b : UInt8) (e : Ending) (w' : World) : Prop :=
  e = .returned (.int .i64 0) ∧ IsRef w' B p hv wv (D.spoiled i a b) ∧ Touch (fun k => hv.ownBlock = some k ∨ wv.ownBlock = some k) w w'

set_option maxRecDepth 100000 in
theorem wp_store_str {o : Oper} {a : Act} {w : World} {K : Act → World → Prop} {Q : Exit → Act → World → Prop} (x y : Operand) (ho : o.op = .store 9 x y) (g m : Nat) (bs : List UInt8)
    (hx : a.eval x = .pointer (some ⟨g, m, none⟩)) (hy : a.eval y = Str bs) {u : Value} (hc : w.cell? ⟨g, m, none⟩ = some u) (hf : w.frozen? ⟨g, m, none⟩ = false)
    (h : K (a.put o.dst undef) (w.setCell ⟨g, m, none⟩ (Str bs))) : o.wp Tryz.prog a w K Q := by
  have hst := run_store_str w g m bs hc hf
  unfold Str at *
  unfold Oper.wp execOp
  rw [ho]
  simp only [hx, hy]
  go_simp
  exact h

set_option maxRecDepth 100000 in
theorem run_storeCells_str (w : World) (g m : Nat) (bs : List UInt8) {u : Value} (hc : w.cell? ⟨g, m, none⟩ = some u) (hf : w.frozen? ⟨g, m, none⟩ = false) : (storeCells ⟨g, m, none⟩ [Str bs]).run Tryz.prog w = .ok () (w.setCell ⟨g, m, none⟩ (Str bs)) := by
  have := run_store_str w g m bs hc hf
  unfold storeCells
  rw [Sem.run_bind, Addr.add_mid, Nat.add_zero, this]
  simp [storeCells]

set_option maxRecDepth 100000 in
/-- One alone may come up, and it tells a value. -/
theorem E_only {P : Program} {ops : Array Oper} {Q : Exit → Go.Act → World → Prop} {md : Region.Mode} {S : World → Prop} {X : Nat} {i : Nat} {oi : Oper} (d : Nat) {v : Value} {fuel : Nat} {listed : Array Bool} {a : Go.Act} {w : World} (hi : ops[i]? = some oi) (hd : oi.dst = some d)
    (hr : Region.ready md ops listed = [i]) (hy : YieldsIf P ops S oi v a) (hS : S w) (h : wpAnyE P md ops Q S X fuel (listed.setIfInBounds i true) (a.put (some d) v) w) : wpAnyE P md ops Q S X (fuel + 1) listed a w := by
  refine ⟨fun c => (by rw [hr] at c; cases c), fun j hj => ?_⟩
  rw [hr] at hj
  obtain rfl := List.mem_singleton.1 hj
  exact hy.wpOp hi hS ⟨fun _ => hS, by rw [hd]; exact h⟩

set_option maxRecDepth 100000 in
/-- A store into the bytes of a waiting write. -/
theorem IsRef.setWait {w : World} {B p g cap : Nat} {hv : Value} {D : dSt} (hd : IsRef w B p hv (.slice (some ⟨g, 0, none⟩) D.W.length cap) D) (k : Nat) (x : Int × List UInt8) (hx : D.W[k]? = some x) (bs : List UInt8) (hl : bs.length = 256) :
    IsRef (w.setCell ⟨g, k * 2 + 1, none⟩ (Str bs)) B p hv (.slice (some ⟨g, 0, none⟩) D.W.length cap) { D with W := D.W.set k (x.1, bs) } := by
  have hT : Touch (fun j => j = g) w (w.setCell ⟨g, k * 2 + 1, none⟩ (Str bs)) := Touch.setCell (T := fun j => j = g) (Touch.refl _ w) (fun _ => rfl) _
  have h := (hd.wait.stored (k * 2 + 1) (Str bs)).1
  rw [rflat_set D.W k x bs hx] at h
  refine ⟨?_, own_kept hd.held hT (fun j hj e => hd.ne.2.2 j g hj rfl e), ?_, ?_, hd.low, hd.size, hd.good, ?_⟩
  · rw [hT.block p (Array.getElem?_eq_some_iff.1 hd.box).1 (fun e => hd.ne.2.1 g rfl e.symm)]; exact hd.box
  · show World.ownsRow _ B 120 2 _ (D.W.set k (x.1, bs)).length _
    rw [List.length_set]; exact h
  · intro y hy
    rcases List.mem_or_eq_of_mem_set hy with hy | rfl
    · exact hd.places y hy
    · exact hd.places x (List.mem_of_getElem? hx)
  · intro y hy
    rcases List.mem_or_eq_of_mem_set hy with hy | rfl
    · exact hd.goodW y hy
    · exact hl

set_option maxRecDepth 100000 in
set_option maxHeartbeats 400000 in
theorem rspoil_bad (B p : Nat) (hv wv : Value) (D : dSt) (i at_ bb : Int) (w : World) (hd : IsRef w B p hv wv D) (hi : ¬ (0 ≤ i ∧ i < D.size ∧ 0 ≤ at_ ∧ at_ < 256)) :
    Calls Tryz.prog 34 #[.pointer (some ⟨p, 0, none⟩), .int .i64 i, .int .i64 at_, .int .u8 bb] w fun e w' => e = .returned (.int .i64 2) ∧ w' = w := by
  obtain ⟨g, cap, rfl, hcap, _, _, _⟩ := hd.heldAt
  have hs := hd.size
  have c0 : w.cell? ⟨p, 0, none⟩ = some (.slice (some ⟨g, 0, none⟩) D.size.toNat cap) := cellOf hd.box 0
  have hq : ((D.size.toNat : Nat) : Int) = D.size := Int.toNat_of_nonneg (by have := hs.1; clear hd c0; omega)
  clear hd
  by_cases h0 : i < 0
  · go_enter Tryz.func34, Tryz.ntmps34
    go_wp2
    go_ret
    exact ⟨rfl, rfl⟩
  · by_cases h1 : D.size ≤ i
    · have h2 : decide (D.size ≤ i) = true := by simpa using h1
      clear hi
      go_enter Tryz.func34, Tryz.ntmps34
      go_wp2
      go_ret
      exact ⟨rfl, rfl⟩
    · have h2 : decide (D.size ≤ i) = false := by simp; omega
      by_cases h3 : at_ < 0
      · clear hi
        go_enter Tryz.func34, Tryz.ntmps34
        go_wp2
        go_ret
        exact ⟨rfl, rfl⟩
      · have h4 : decide (256 ≤ at_) = true := by simp; omega
        clear hi
        go_enter Tryz.func34, Tryz.ntmps34
        go_wp2
        go_ret
        exact ⟨rfl, rfl⟩

set_option maxRecDepth 100000 in
set_option maxHeartbeats 4000000 in
theorem rspoil_ok (B p : Nat) (hv wv : Value) (D : dSt) (m a : Nat) (b : UInt8) (w : World) (hd : IsRef w B p hv wv D) (hl : D.W.length ≤ 1000) (hm : (m : Int) < D.size) (ha : a < 256) :
    Calls Tryz.prog 34 #[.pointer (some ⟨p, 0, none⟩), .int .i64 (m : Int), .int .i64 (a : Int), .int .u8 (b.toNat : Int)] w (PRSpoil w B p hv wv D (m : Int) a b) := by
  obtain ⟨g, cap, rfl, hcap, hglt, hcell, hfr⟩ := hd.heldAt
  obtain ⟨ao, wcap, rfl, hwcap, _⟩ := hd.waitAt
  have hs := hd.size
  have hmn : m < D.size.toNat := by have := hs.1; clear hd hcell; omega
  have hm0 : ¬ (m : Int) < 0 := by clear hd; omega
  have h2 : decide (D.size ≤ (m : Int)) = false := by simp; exact hm
  have ha0 : ¬ (a : Int) < 0 := by clear hd; omega
  have ha1 : decide (256 ≤ (a : Int)) = false := by simp; omega
  have hq : ((D.size.toNat : Nat) : Int) = D.size := Int.toNat_of_nonneg (by have := hs.1; clear hd hcell; omega)
  have hA1 : Adds w (w.alloc (.cells #[.int .u8 (b.toNat : Int)] 5)) := (Touch.refl _ w).alloc _
  have hcv := conv_bytes (w.alloc (.cells #[.int .u8 (b.toNat : Int)] 5)) w.heap.size 1 1 [b] rfl (fun j c hc => by
    rw [cellOf (heap_alloc_new w _)]
    cases j with
    | zero => simp at hc; subst hc; rfl
    | succ j => simp at hc)
  have c0w : w.cell? ⟨p, 0, none⟩ = some (.slice (some ⟨g, 0, none⟩) D.size.toNat cap) := cellOf hd.box 0
  go_enter Tryz.func34, Tryz.ntmps34
  go_upto_region 4 with fail
  generalize hw1 : w.alloc (.cells #[.int .u8 (b.toNat : Int)] 5) = w1 at hA1
  have hd1 := hd.adds hA1
  have hcm : w1.cell? ⟨g, m, none⟩ = some (Str (D.H (m : Int))) := below_adds hA1 (hcell m hmn)
  have hfm : w1.frozen? ⟨g, m, none⟩ = false := by
    obtain ⟨c, hc⟩ := own_type hd1.held rfl
    exact frozen_of_row w1 g m c 9 hc
  have c0 : w1.cell? ⟨p, 0, none⟩ = some (.slice (some ⟨g, 0, none⟩) D.size.toNat cap) := below_adds hA1 c0w
  have hbl : (D.H (m : Int)).length = 256 := hd.good _
  have HD1 := hid hd1
  have HBL := hid hbl
  clear hd hd1 c0w hcell hfr hcv
  go_cut [8] (fun t w' => t = .int .i64 0 ∧ w' = (w1.drew.setCell ⟨g, m, none⟩ (Str ((D.H (m : Int)).set a b))))
  case first =>
    generalize D.H (m : Int) = bs at *
    have hj := set_join bs a b (by omega)
    have e1 := sl_to bs a (by omega)
    have e2 : ∀ w, (Instr.slice 9 (Str bs) (some (.int .i64 ((a : Int) + 1))) none none).run Tryz.prog w = .ok (Str (bs.drop (a + 1))) w := sl_from bs (a + 1) (by omega)
    have e3 := str_cat (bs.take a) [b] (by simp; omega) (by simp)
    have e4 := str_cat (bs.take a ++ [b]) (bs.drop (a + 1)) (by simp; omega) (by simp; omega)
    have ew : IntKind.i64.wrap ((a : Int) + 1) = ((a + 1 : Nat) : Int) := by rw [IntKind.wrap_i64]; omega
    have hst := run_store_str w1.drew g m (bs.take a ++ [b] ++ bs.drop (a + 1)) hcm hfm
    have hS0 : w1.drew.cell? ⟨p, 0, none⟩ = some (.slice (some ⟨g, 0, none⟩) D.size.toNat cap) ∧ w1.drew.cell? ⟨g, m, none⟩ = some (Str bs) ∧ True := ⟨c0, hcm, trivial⟩
    refine E_begin (S := fun w' => w'.cell? ⟨p, 0, none⟩ = some (.slice (some ⟨g, 0, none⟩) D.size.toNat cap) ∧ w'.cell? ⟨g, m, none⟩ = some (Str bs) ∧ True) (X := 28) (by kernel_rfl) ?_
    refine E_put (i := 0) 34 (v := .pointer (some ⟨p, 0, none⟩)) rfl rfl (by kernel_rfl) (by kernel_rfl) (by kernel_rfl) (by kernel_rfl) (fun _ _ _ h => h) (Or.inl ⟨by rfl, fun w' hw' => ?_⟩) hS0 ?_
    · obtain ⟨q0, q1, q2⟩ := hw'; go_simp
    simp only [Act.put, List.setIfInBounds_toArray, List.set_cons_zero, List.set_cons_succ]
    refine E_put (i := 1) 35 (v := .pointer (some ⟨p, 0, none⟩)) rfl rfl (by kernel_rfl) (by kernel_rfl) (by kernel_rfl) (by kernel_rfl) (fun _ _ _ h => h) (Or.inl ⟨by rfl, fun w' hw' => ?_⟩) hS0 ?_
    · obtain ⟨q0, q1, q2⟩ := hw'; go_simp
    simp only [Act.put, List.setIfInBounds_toArray, List.set_cons_zero, List.set_cons_succ]
    refine E_put (i := 2) 36 (v := .pointer (some ⟨p, 0, none⟩)) rfl rfl (by kernel_rfl) (by kernel_rfl) (by kernel_rfl) (by kernel_rfl) (fun _ _ _ h => h) (Or.inl ⟨by rfl, fun w' hw' => ?_⟩) hS0 ?_
    · obtain ⟨q0, q1, q2⟩ := hw'; go_simp
    simp only [Act.put, List.setIfInBounds_toArray, List.set_cons_zero, List.set_cons_succ]
    refine E_put (i := 3) 37 (v := .slice (some ⟨g, 0, none⟩) D.size.toNat cap) rfl rfl (by kernel_rfl) (by kernel_rfl) (by kernel_rfl) (by kernel_rfl) (fun _ _ _ h => h) (Or.inl ⟨by rfl, fun w' hw' => ?_⟩) hS0 ?_
    · obtain ⟨q0, q1, q2⟩ := hw'; go_simp
    simp only [Act.put, List.setIfInBounds_toArray, List.set_cons_zero, List.set_cons_succ]
    refine E_put (i := 4) 38 (v := .int .i64 (m : Int)) rfl rfl (by kernel_rfl) (by kernel_rfl) (by kernel_rfl) (by kernel_rfl) (fun _ _ _ h => h) (Or.inl ⟨by rfl, fun w' hw' => ?_⟩) hS0 ?_
    · obtain ⟨q0, q1, q2⟩ := hw'; go_simp
    simp only [Act.put, List.setIfInBounds_toArray, List.set_cons_zero, List.set_cons_succ]
    refine E_put (i := 5) 39 (v := .pointer (some ⟨p, 0, none⟩)) rfl rfl (by kernel_rfl) (by kernel_rfl) (by kernel_rfl) (by kernel_rfl) (fun _ _ _ h => h) (Or.inl ⟨by rfl, fun w' hw' => ?_⟩) hS0 ?_
    · obtain ⟨q0, q1, q2⟩ := hw'; go_simp
    simp only [Act.put, List.setIfInBounds_toArray, List.set_cons_zero, List.set_cons_succ]
    refine E_put (i := 6) 40 (v := .pointer (some ⟨p, 0, none⟩)) rfl rfl (by kernel_rfl) (by kernel_rfl) (by kernel_rfl) (by kernel_rfl) (fun _ _ _ h => h) (Or.inl ⟨by rfl, fun w' hw' => ?_⟩) hS0 ?_
    · obtain ⟨q0, q1, q2⟩ := hw'; go_simp
    simp only [Act.put, List.setIfInBounds_toArray, List.set_cons_zero, List.set_cons_succ]
    refine E_put (i := 7) 41 (v := .pointer (some ⟨p, 0, none⟩)) rfl rfl (by kernel_rfl) (by kernel_rfl) (by kernel_rfl) (by kernel_rfl) (fun _ _ _ h => h) (Or.inl ⟨by rfl, fun w' hw' => ?_⟩) hS0 ?_
    · obtain ⟨q0, q1, q2⟩ := hw'; go_simp
    simp only [Act.put, List.setIfInBounds_toArray, List.set_cons_zero, List.set_cons_succ]
    refine E_put (i := 8) 42 (v := .slice (some ⟨g, 0, none⟩) D.size.toNat cap) rfl rfl (by kernel_rfl) (by kernel_rfl) (by kernel_rfl) (by kernel_rfl) (fun _ _ _ h => h) (Or.inl ⟨by rfl, fun w' hw' => ?_⟩) hS0 ?_
    · obtain ⟨q0, q1, q2⟩ := hw'; go_simp
    simp only [Act.put, List.setIfInBounds_toArray, List.set_cons_zero, List.set_cons_succ]
    refine E_put (i := 9) 43 (v := .int .i64 (m : Int)) rfl rfl (by kernel_rfl) (by kernel_rfl) (by kernel_rfl) (by kernel_rfl) (fun _ _ _ h => h) (Or.inl ⟨by rfl, fun w' hw' => ?_⟩) hS0 ?_
    · obtain ⟨q0, q1, q2⟩ := hw'; go_simp
    simp only [Act.put, List.setIfInBounds_toArray, List.set_cons_zero, List.set_cons_succ]
    refine E_put (i := 10) 44 (v := .pointer (some ⟨g, m, none⟩)) rfl rfl (by kernel_rfl) (by kernel_rfl) (by kernel_rfl) (by kernel_rfl) (fun _ _ _ h => h) (Or.inl ⟨by rfl, fun w' hw' => ?_⟩) hS0 ?_
    · obtain ⟨q0, q1, q2⟩ := hw'; go_simp
    simp only [Act.put, List.setIfInBounds_toArray, List.set_cons_zero, List.set_cons_succ]
    refine E_put (i := 11) 45 (v := Str bs) rfl rfl (by kernel_rfl) (by kernel_rfl) (by kernel_rfl) (by kernel_rfl) (fun _ _ _ h => h) (Or.inl ⟨by rfl, fun w' hw' => ?_⟩) hS0 ?_
    · obtain ⟨q0, q1, q2⟩ := hw'; go_simp
    simp only [Act.put, List.setIfInBounds_toArray, List.set_cons_zero, List.set_cons_succ]
    refine E_put (i := 12) 46 (v := .int .i64 (a : Int)) rfl rfl (by kernel_rfl) (by kernel_rfl) (by kernel_rfl) (by kernel_rfl) (fun _ _ _ h => h) (Or.inl ⟨by rfl, fun w' hw' => ?_⟩) hS0 ?_
    · obtain ⟨q0, q1, q2⟩ := hw'; go_simp
    simp only [Act.put, List.setIfInBounds_toArray, List.set_cons_zero, List.set_cons_succ]
    refine E_put (i := 13) 47 (v := Str (bs.take a)) rfl rfl (by kernel_rfl) (by kernel_rfl) (by kernel_rfl) (by kernel_rfl) (fun _ _ _ h => h) (Or.inl ⟨by rfl, fun w' hw' => ?_⟩) hS0 ?_
    · obtain ⟨q0, q1, q2⟩ := hw'; go_simp
    simp only [Act.put, List.setIfInBounds_toArray, List.set_cons_zero, List.set_cons_succ]
    refine E_put (i := 14) 48 (v := Str [b]) rfl rfl (by kernel_rfl) (by kernel_rfl) (by kernel_rfl) (by kernel_rfl) (fun _ _ _ h => h) (Or.inl ⟨by rfl, fun w' hw' => ?_⟩) hS0 ?_
    · obtain ⟨q0, q1, q2⟩ := hw'; go_simp
    simp only [Act.put, List.setIfInBounds_toArray, List.set_cons_zero, List.set_cons_succ]
    refine E_put (i := 15) 49 (v := Str (bs.take a ++ [b])) rfl rfl (by kernel_rfl) (by kernel_rfl) (by kernel_rfl) (by kernel_rfl) (fun _ _ _ h => h) (Or.inl ⟨by rfl, fun w' hw' => ?_⟩) hS0 ?_
    · obtain ⟨q0, q1, q2⟩ := hw'; go_simp
    simp only [Act.put, List.setIfInBounds_toArray, List.set_cons_zero, List.set_cons_succ]
    refine E_put (i := 16) 50 (v := .pointer (some ⟨p, 0, none⟩)) rfl rfl (by kernel_rfl) (by kernel_rfl) (by kernel_rfl) (by kernel_rfl) (fun _ _ _ h => h) (Or.inl ⟨by rfl, fun w' hw' => ?_⟩) hS0 ?_
    · obtain ⟨q0, q1, q2⟩ := hw'; go_simp
    simp only [Act.put, List.setIfInBounds_toArray, List.set_cons_zero, List.set_cons_succ]
    refine E_put (i := 17) 51 (v := .pointer (some ⟨p, 0, none⟩)) rfl rfl (by kernel_rfl) (by kernel_rfl) (by kernel_rfl) (by kernel_rfl) (fun _ _ _ h => h) (Or.inl ⟨by rfl, fun w' hw' => ?_⟩) hS0 ?_
    · obtain ⟨q0, q1, q2⟩ := hw'; go_simp
    simp only [Act.put, List.setIfInBounds_toArray, List.set_cons_zero, List.set_cons_succ]
    refine E_put (i := 18) 52 (v := .pointer (some ⟨p, 0, none⟩)) rfl rfl (by kernel_rfl) (by kernel_rfl) (by kernel_rfl) (by kernel_rfl) (fun _ _ _ h => h) (Or.inl ⟨by rfl, fun w' hw' => ?_⟩) hS0 ?_
    · obtain ⟨q0, q1, q2⟩ := hw'; go_simp
    simp only [Act.put, List.setIfInBounds_toArray, List.set_cons_zero, List.set_cons_succ]
    refine E_put (i := 19) 53 (v := .slice (some ⟨g, 0, none⟩) D.size.toNat cap) rfl rfl (by kernel_rfl) (by kernel_rfl) (by kernel_rfl) (by kernel_rfl) (fun _ _ _ h => h) (Or.inl ⟨by rfl, fun w' hw' => ?_⟩) hS0 ?_
    · obtain ⟨q0, q1, q2⟩ := hw'; go_simp
    simp only [Act.put, List.setIfInBounds_toArray, List.set_cons_zero, List.set_cons_succ]
    refine E_put (i := 20) 54 (v := .int .i64 (m : Int)) rfl rfl (by kernel_rfl) (by kernel_rfl) (by kernel_rfl) (by kernel_rfl) (fun _ _ _ h => h) (Or.inl ⟨by rfl, fun w' hw' => ?_⟩) hS0 ?_
    · obtain ⟨q0, q1, q2⟩ := hw'; go_simp
    simp only [Act.put, List.setIfInBounds_toArray, List.set_cons_zero, List.set_cons_succ]
    refine E_put (i := 21) 55 (v := .pointer (some ⟨g, m, none⟩)) rfl rfl (by kernel_rfl) (by kernel_rfl) (by kernel_rfl) (by kernel_rfl) (fun _ _ _ h => h) (Or.inl ⟨by rfl, fun w' hw' => ?_⟩) hS0 ?_
    · obtain ⟨q0, q1, q2⟩ := hw'; go_simp
    simp only [Act.put, List.setIfInBounds_toArray, List.set_cons_zero, List.set_cons_succ]
    refine E_put (i := 22) 56 (v := Str bs) rfl rfl (by kernel_rfl) (by kernel_rfl) (by kernel_rfl) (by kernel_rfl) (fun _ _ _ h => h) (Or.inl ⟨by rfl, fun w' hw' => ?_⟩) hS0 ?_
    · obtain ⟨q0, q1, q2⟩ := hw'; go_simp
    simp only [Act.put, List.setIfInBounds_toArray, List.set_cons_zero, List.set_cons_succ]
    refine E_put (i := 23) 57 (v := .int .i64 (a : Int)) rfl rfl (by kernel_rfl) (by kernel_rfl) (by kernel_rfl) (by kernel_rfl) (fun _ _ _ h => h) (Or.inl ⟨by rfl, fun w' hw' => ?_⟩) hS0 ?_
    · obtain ⟨q0, q1, q2⟩ := hw'; go_simp
    simp only [Act.put, List.setIfInBounds_toArray, List.set_cons_zero, List.set_cons_succ]
    refine E_put (i := 24) 58 (v := .int .i64 ((a + 1 : Nat) : Int)) rfl rfl (by kernel_rfl) (by kernel_rfl) (by kernel_rfl) (by kernel_rfl) (fun _ _ _ h => h) (Or.inl ⟨by rfl, fun w' hw' => ?_⟩) hS0 ?_
    · obtain ⟨q0, q1, q2⟩ := hw'; go_simp
    simp only [Act.put, List.setIfInBounds_toArray, List.set_cons_zero, List.set_cons_succ]
    refine E_put (i := 25) 59 (v := Str (bs.drop (a + 1))) rfl rfl (by kernel_rfl) (by kernel_rfl) (by kernel_rfl) (by kernel_rfl) (fun _ _ _ h => h) (Or.inl ⟨by rfl, fun w' hw' => ?_⟩) hS0 ?_
    · obtain ⟨q0, q1, q2⟩ := hw'; go_simp
    simp only [Act.put, List.setIfInBounds_toArray, List.set_cons_zero, List.set_cons_succ]
    refine E_put (i := 26) 60 (v := Str (bs.take a ++ [b] ++ bs.drop (a + 1))) rfl rfl (by kernel_rfl) (by kernel_rfl) (by kernel_rfl) (by kernel_rfl) (fun _ _ _ h => h) (Or.inl ⟨by rfl, fun w' hw' => ?_⟩) hS0 ?_
    · obtain ⟨q0, q1, q2⟩ := hw'; go_simp
    simp only [Act.put, List.setIfInBounds_toArray, List.set_cons_zero, List.set_cons_succ]
    refine E_put (i := 27) 61 (v := .pointer (some ⟨g, m, none⟩)) rfl rfl (by kernel_rfl) (by kernel_rfl) (by kernel_rfl) (by kernel_rfl) (fun _ _ _ h => h) (Or.inl ⟨by rfl, fun w' hw' => ?_⟩) hS0 ?_
    · obtain ⟨q0, q1, q2⟩ := hw'; go_simp
    simp only [Act.put, List.setIfInBounds_toArray, List.set_cons_zero, List.set_cons_succ]
    refine E_do (i := 28) none (by kernel_rfl) rfl rfl rfl (fun K hK => ?_)
    refine wp_store_str (.tmp 61) (.tmp 60) rfl g m _ rfl rfl hcm hfm ?_
    refine hK _ _ (fun c => absurd rfl c) ?_
    clear hK K
    simp only [Act.put]
    refine E_done (by kernel_rfl) ?_ _
    go_wp2
    go_meet
    case rel => exact ⟨rfl, rfl⟩
  case rest =>
    rename World => w2
    obtain ⟨rfl, hw2⟩ := hcut
    have HD2 : Hid (IsRef w2 B p (.slice (some ⟨g, 0, none⟩) D.size.toNat cap) (.slice ao D.W.length wcap) { D with H := upd D.H (m : Int) ((D.H (m : Int)).set a b) }) := by
      rw [hw2]; exact IsRef.setHeld (D := D) (HD1.out.adds (Touch.refl _ _).drew) m _ (by rw [List.length_set]; exact HBL.out)
    have hT2 : Touch (fun k => (Value.slice (some ⟨g, 0, none⟩) D.size.toNat cap).ownBlock = some k ∨ (Value.slice ao D.W.length wcap).ownBlock = some k) w w2 := by
      rw [hw2]; exact Touch.setCell (hA1.mono (fun _ _ h => h.elim)).drew (fun _ => .inl rfl) _
    clear HD1 HBL hcm hfm c0 hw2 hw1 hA1
    go_wp2
    go_loopw [10] (fun t wr => ∃ k : Nat, k ≤ D.W.length ∧ t = .int .i64 k ∧ Hid (IsRef wr B p (.slice (some ⟨g, 0, none⟩) D.size.toNat cap) (.slice ao D.W.length wcap) { D with H := upd D.H (m : Int) ((D.H (m : Int)).set a b), W := spTo (spf (m : Int) a b) D.W k } ∧ Touch (fun k => (Value.slice (some ⟨g, 0, none⟩) D.size.toNat cap).ownBlock = some k ∨ (Value.slice ao D.W.length wcap).ownBlock = some k) w wr)) (fun t _ => D.W.length - (intOf t).toNat)
    case atStart => exact ⟨0, Nat.zero_le _, rfl, by rw [spTo_zero]; exact HD2.out, hT2⟩
    case round =>
      obtain ⟨k, hk, rfl, HH⟩ := hrel
      clear HD2 hT2
      have c1r : wr.cell? ⟨p, 1, none⟩ = some (.slice ao D.W.length wcap) := cellOf HH.out.1.box 1
      by_cases hlt : k < D.W.length
      · have hlen := spTo_len (spf (m : Int) a b) D.W k hk
        have hg? := spTo_get (spf (m : Int) a b) D.W k hlt
        have hgk : (spTo (spf (m : Int) a b) D.W k)[k]'(by rw [hlen]; exact hlt) = D.W[k] := by
          rw [List.getElem?_eq_getElem (by rw [hlen]; exact hlt)] at hg?; simpa using hg?
        obtain ⟨ao', wcap', he, _, hrest⟩ := HH.out.1.waitAt
        obtain ⟨gw, rfl, _, hc, hfr⟩ := hrest (show 0 < (spTo (spf (m : Int) a b) D.W k).length by rw [hlen]; omega)
        obtain ⟨rfl, rfl⟩ : ao = some ⟨gw, 0, none⟩ ∧ wcap = wcap' := by
          have := he
          simp only [Value.slice.injEq] at this
          exact ⟨this.1, this.2.2⟩
        have hck := hc k (show k < (spTo (spf (m : Int) a b) D.W k).length by rw [hlen]; exact hlt)
        simp only [hgk] at hck
        obtain ⟨hc0, hc1⟩ := hck
        have hfm := hfr (k * 2 + 1)
        have HGD : Hid (D.W[k].2.length = 256) := by
          have := HH.out.1.goodW (D.W[k]) (by show D.W[k] ∈ spTo (spf (m : Int) a b) D.W k; exact List.mem_of_getElem? hg?)
          exact this
        have HG := hid hg?
        clear hc hfr hrest he hgk hg?
        by_cases hx : D.W[k].1 = (m : Int)
        · have hsucc := hid (spTo_succ (spf (m : Int) a b) D.W k hlt)
          rw [spf, if_pos hx] at hsucc
          have HX := hid hx
          have hxb : (D.W[k].1 == (m : Int)) = true := by simp [hx]
          have HSET := hid (fun bs hl => IsRef.setWait (D := { D with H := upd D.H (m : Int) ((D.H (m : Int)).set a b), W := spTo (spf (m : Int) a b) D.W k }) (cap := wcap) (g := gw) (by rw [hlen]; exact HH.out.1) k D.W[k] HG.out bs hl)
          simp only [hlen] at HSET
          generalize D.W[k] = x at *
          obtain ⟨xi, bs⟩ := x
          simp only at *
          have hbl := HGD.out
          have hj := set_join bs a b (by omega)
          have e1 := sl_to bs a (by omega)
          have e2 : ∀ w, (Instr.slice 9 (Str bs) (some (.int .i64 ((a : Int) + 1))) none none).run Tryz.prog w = .ok (Str (bs.drop (a + 1))) w := sl_from bs (a + 1) (by omega)
          have e3 := str_cat (bs.take a) [b] (by simp; omega) (by simp)
          have e4 := str_cat (bs.take a ++ [b]) (bs.drop (a + 1)) (by simp; omega) (by simp; omega)
          have ew : IntKind.i64.wrap ((a : Int) + 1) = (a : Int) + 1 := by rw [IntKind.wrap_i64]; omega
          have hst := run_store_str wr.drew gw (k * 2 + 1) (bs.take a ++ [b] ++ bs.drop (a + 1)) hc1 hfm
          have hst2 := run_storeCells_str wr.drew gw (k * 2 + 1) (bs.take a ++ [b] ++ bs.drop (a + 1)) hc1 hfm
          rw [hj] at e4 hst hst2
          have HK1 := hid (show wr.drew.cell? ⟨p, 1, none⟩ = some (.slice (some ⟨gw, 0, none⟩) D.W.length wcap) from c1r)
          have hne : p ≠ gw := fun e => HH.out.1.ne.2.1 gw rfl e.symm
          have HK2 := hid (show (wr.drew.setCell ⟨gw, k * 2 + 1, none⟩ (Str (bs.set a b))).cell? ⟨p, 1, none⟩ = some (.slice (some ⟨gw, 0, none⟩) D.W.length wcap) by
            rw [cell_setCell_block _ _ _ _ hne]; exact c1r)
          go_upto_region 10 with fail
          have hS1 : wr.drew.cell? ⟨p, 1, none⟩ = some (.slice (some ⟨gw, 0, none⟩) D.W.length wcap) ∧ True := ⟨c1r, trivial⟩
          refine E_begin (S := fun w' => w'.cell? ⟨p, 1, none⟩ = some (.slice (some ⟨gw, 0, none⟩) D.W.length wcap) ∧ True) (X := 17) (by kernel_rfl) ?_
          refine E_put (i := 0) 89 (v := .pointer (some ⟨p, 0, none⟩)) rfl rfl (by kernel_rfl) (by kernel_rfl) (by kernel_rfl) (by kernel_rfl) (fun _ _ _ h => h) (Or.inl ⟨by rfl, fun w' hw' => ?_⟩) hS1 ?_
          · obtain ⟨q0, q1⟩ := hw'; go_simp
          simp only [Act.put, List.setIfInBounds_toArray, List.set_cons_zero, List.set_cons_succ]
          refine E_put (i := 1) 90 (v := .pointer (some ⟨p, 0, none⟩)) rfl rfl (by kernel_rfl) (by kernel_rfl) (by kernel_rfl) (by kernel_rfl) (fun _ _ _ h => h) (Or.inl ⟨by rfl, fun w' hw' => ?_⟩) hS1 ?_
          · obtain ⟨q0, q1⟩ := hw'; go_simp
          simp only [Act.put, List.setIfInBounds_toArray, List.set_cons_zero, List.set_cons_succ]
          refine E_put (i := 2) 91 (v := .pointer (some ⟨p, 1, none⟩)) rfl rfl (by kernel_rfl) (by kernel_rfl) (by kernel_rfl) (by kernel_rfl) (fun _ _ _ h => h) (Or.inl ⟨by rfl, fun w' hw' => ?_⟩) hS1 ?_
          · obtain ⟨q0, q1⟩ := hw'; go_simp
          simp only [Act.put, List.setIfInBounds_toArray, List.set_cons_zero, List.set_cons_succ]
          refine E_put (i := 3) 92 (v := .slice (some ⟨gw, 0, none⟩) D.W.length wcap) rfl rfl (by kernel_rfl) (by kernel_rfl) (by kernel_rfl) (by kernel_rfl) (fun _ _ _ h => h) (Or.inl ⟨by rfl, fun w' hw' => ?_⟩) hS1 ?_
          · obtain ⟨q0, q1⟩ := hw'; go_simp
          simp only [Act.put, List.setIfInBounds_toArray, List.set_cons_zero, List.set_cons_succ]
          refine E_put (i := 4) 93 (v := .int .i64 (k : Int)) rfl rfl (by kernel_rfl) (by kernel_rfl) (by kernel_rfl) (by kernel_rfl) (fun _ _ _ h => h) (Or.inl ⟨by rfl, fun w' hw' => ?_⟩) hS1 ?_
          · obtain ⟨q0, q1⟩ := hw'; go_simp
          simp only [Act.put, List.setIfInBounds_toArray, List.set_cons_zero, List.set_cons_succ]
          refine E_put (i := 5) 94 (v := Str bs) rfl rfl (by kernel_rfl) (by kernel_rfl) (by kernel_rfl) (by kernel_rfl) (fun _ _ _ h => h) (Or.inl ⟨by rfl, fun w' hw' => ?_⟩) hS1 ?_
          · obtain ⟨q0, q1⟩ := hw'; go_simp
          simp only [Act.put, List.setIfInBounds_toArray, List.set_cons_zero, List.set_cons_succ]
          refine E_put (i := 6) 95 (v := .int .i64 (a : Int)) rfl rfl (by kernel_rfl) (by kernel_rfl) (by kernel_rfl) (by kernel_rfl) (fun _ _ _ h => h) (Or.inl ⟨by rfl, fun w' hw' => ?_⟩) hS1 ?_
          · obtain ⟨q0, q1⟩ := hw'; go_simp
          simp only [Act.put, List.setIfInBounds_toArray, List.set_cons_zero, List.set_cons_succ]
          refine E_put (i := 7) 96 (v := Str (bs.take a)) rfl rfl (by kernel_rfl) (by kernel_rfl) (by kernel_rfl) (by kernel_rfl) (fun _ _ _ h => h) (Or.inl ⟨by rfl, fun w' hw' => ?_⟩) hS1 ?_
          · obtain ⟨q0, q1⟩ := hw'; go_simp
          simp only [Act.put, List.setIfInBounds_toArray, List.set_cons_zero, List.set_cons_succ]
          refine E_put (i := 8) 97 (v := Str [b]) rfl rfl (by kernel_rfl) (by kernel_rfl) (by kernel_rfl) (by kernel_rfl) (fun _ _ _ h => h) (Or.inl ⟨by rfl, fun w' hw' => ?_⟩) hS1 ?_
          · obtain ⟨q0, q1⟩ := hw'; go_simp
          simp only [Act.put, List.setIfInBounds_toArray, List.set_cons_zero, List.set_cons_succ]
          refine E_put (i := 9) 98 (v := Str (bs.take a ++ [b])) rfl rfl (by kernel_rfl) (by kernel_rfl) (by kernel_rfl) (by kernel_rfl) (fun _ _ _ h => h) (Or.inl ⟨by rfl, fun w' hw' => ?_⟩) hS1 ?_
          · obtain ⟨q0, q1⟩ := hw'; go_simp
          simp only [Act.put, List.setIfInBounds_toArray, List.set_cons_zero, List.set_cons_succ]
          refine E_put (i := 10) 99 (v := Str bs) rfl rfl (by kernel_rfl) (by kernel_rfl) (by kernel_rfl) (by kernel_rfl) (fun _ _ _ h => h) (Or.inl ⟨by rfl, fun w' hw' => ?_⟩) hS1 ?_
          · obtain ⟨q0, q1⟩ := hw'; go_simp
          simp only [Act.put, List.setIfInBounds_toArray, List.set_cons_zero, List.set_cons_succ]
          refine E_put (i := 11) 100 (v := .int .i64 (a : Int)) rfl rfl (by kernel_rfl) (by kernel_rfl) (by kernel_rfl) (by kernel_rfl) (fun _ _ _ h => h) (Or.inl ⟨by rfl, fun w' hw' => ?_⟩) hS1 ?_
          · obtain ⟨q0, q1⟩ := hw'; go_simp
          simp only [Act.put, List.setIfInBounds_toArray, List.set_cons_zero, List.set_cons_succ]
          refine E_put (i := 12) 101 (v := .int .i64 ((a : Int) + 1)) rfl rfl (by kernel_rfl) (by kernel_rfl) (by kernel_rfl) (by kernel_rfl) (fun _ _ _ h => h) (Or.inl ⟨by rfl, fun w' hw' => ?_⟩) hS1 ?_
          · obtain ⟨q0, q1⟩ := hw'; go_simp
          simp only [Act.put, List.setIfInBounds_toArray, List.set_cons_zero, List.set_cons_succ]
          refine E_put (i := 13) 102 (v := Str (bs.drop (a + 1))) rfl rfl (by kernel_rfl) (by kernel_rfl) (by kernel_rfl) (by kernel_rfl) (fun _ _ _ h => h) (Or.inl ⟨by rfl, fun w' hw' => ?_⟩) hS1 ?_
          · obtain ⟨q0, q1⟩ := hw'; go_simp
          simp only [Act.put, List.setIfInBounds_toArray, List.set_cons_zero, List.set_cons_succ]
          refine E_put (i := 14) 103 (v := Str (bs.set a b)) rfl rfl (by kernel_rfl) (by kernel_rfl) (by kernel_rfl) (by kernel_rfl) (fun _ _ _ h => h) (Or.inl ⟨by rfl, fun w' hw' => ?_⟩) hS1 ?_
          · obtain ⟨q0, q1⟩ := hw'; go_simp
          simp only [Act.put, List.setIfInBounds_toArray, List.set_cons_zero, List.set_cons_succ]
          refine E_only (i := 15) 104 (v := .pointer (some ⟨gw, k * 2, none⟩)) rfl rfl (by kernel_rfl) (Or.inl ⟨by rfl, fun w' hw' => ?_⟩) hS1 ?_
          · obtain ⟨q0, q1⟩ := hw'; go_simp
          simp only [Act.put, List.setIfInBounds_toArray, List.set_cons_zero, List.set_cons_succ]
          refine E_put (i := 16) 105 (v := .pointer (some ⟨gw, k * 2 + 1, none⟩)) rfl rfl (by kernel_rfl) (by kernel_rfl) (by kernel_rfl) (by kernel_rfl) (fun _ _ _ h => h) (Or.inl ⟨by rfl, fun w' hw' => ?_⟩) hS1 ?_
          · obtain ⟨q0, q1⟩ := hw'; go_simp
          simp only [Act.put, List.setIfInBounds_toArray, List.set_cons_zero, List.set_cons_succ]
          refine E_do (i := 17) none (by kernel_rfl) rfl rfl rfl (fun K hK => ?_)
          refine wp_store_str (.tmp 105) (.tmp 103) rfl gw (k * 2 + 1) _ rfl rfl hc1 hfm ?_
          refine hK _ _ (fun c => absurd rfl c) ?_
          clear hK K
          simp only [Act.put]
          refine E_done (by kernel_rfl) ?_ _
          go_wp2
          go_roundw
          case rel =>
            refine ⟨k + 1, by omega, by go_num, ?_, ?_⟩
            · rw [hsucc.out]; exact (HSET.out (bs.set a b) (by rw [List.length_set]; exact hbl)).adds (Touch.refl _ _).drew
            · exact Touch.setCell (p := ⟨gw, k * 2 + 1, none⟩) HH.out.2.drew (fun _ => .inr rfl) _
          case measure => simp [intOf]; omega
        · have hsame := hid (spTo_same (spf (m : Int) a b) D.W k hlt (by rw [spf, if_neg hx]))
          have hxb : (D.W[k].1 == (m : Int)) = false := by simp [hx]
          have HX := hid hx
          clear hx hfm hlen
          go_wp2
          go_roundw
          case rel => exact ⟨k + 1, by omega, by go_num, by rw [hsame.out]; exact HH.out.1, HH.out.2⟩
          case measure => simp [intOf]; omega
      · obtain rfl : k = D.W.length := by omega
        go_wp2
        go_ret
        refine ⟨rfl, ?_, HH.out.2⟩
        have := HH.out.1
        rw [spTo_all] at this
        exact this

end Go.Proofs.YtjbdchgadfhffaaGreatDoor
