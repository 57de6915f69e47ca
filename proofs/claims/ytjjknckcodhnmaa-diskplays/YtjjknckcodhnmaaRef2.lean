/- The reference's New and Read. -/
import Derived.Test.YtjjknckcodhnmaaRef
namespace Go.Proofs.Ytjjknckcodhnmaa
open Go.RowKit

theorem info9all : ∃ i, Try.prog.info? 9 = some i ∧ i.zero = some (Str []) ∧ i.size = 1 ∧ i.bytes = 16 := by
  have h : (Try.prog.info? 9).map (fun i => (i.zero, i.size, i.bytes)) = some (some (Str []), 1, 16) := by kernel_rfl
  cases hq : Try.prog.info? 9 with
  | none => rw [hq] at h; cases h
  | some i =>
    rw [hq] at h
    simp only [Option.map_some, Option.some.injEq, Prod.mk.injEq] at h
    exact ⟨i, rfl, h.1, h.2.1, h.2.2⟩

theorem one_str (bs : List UInt8) : ∀ u ∈ [Str bs], u.oneCell' = true := fun u hu => by obtain rfl := List.mem_singleton.1 hu; rfl

theorem own_some {w : World} {B : Nat} {e : TypeId} {size : Nat} {v : Value} {n : Nat} {xs : List Value} (h : w.ownsRow B e size v (n + 1) xs) : ∃ g cap, v = .slice (some ⟨g, 0, none⟩) (n + 1) cap := by
  rcases h.2 with ⟨_, hn⟩ | ⟨g, cap, cur, rfl, _⟩
  · omega
  · exact ⟨g, cap, rfl⟩

theorem own_mono {w : World} {B C : Nat} {e : TypeId} {size : Nat} {v : Value} {n : Nat} {xs : List Value} (h : w.ownsRow B e size v n xs) (hb : C ≤ B) : w.ownsRow C e size v n xs := by
  refine ⟨h.1, ?_⟩
  rcases h.2 with hn | ⟨g, cap, cur, e, hb', rest⟩
  · exact .inl hn
  · exact .inr ⟨g, cap, cur, e, by omega, rest⟩

/-- What the reference's New tells, and leaves. -/
def PRNew (w : World) (B : Nat) (n : Int) (e : Ending) (w' : World) : Prop := ∃ p hv, e = .returned (.tuple #[.pointer (some ⟨p, 0, none⟩), .int .i64 0]) ∧ w.heap.size ≤ p ∧ IsRef w' B p hv (.slice none 0 0) (St.new n) ∧ Adds w w'

theorem strs_zero_snoc (k : Nat) : strs (fun _ => zeros) k ++ [Str zeros] = strs (fun _ => zeros) (k + 1) := by simp [strs, List.range_succ]

set_option maxRecDepth 100000 in
set_option maxHeartbeats 1000000 in
theorem rnew_yes (n : Int) (w : World) (B : Nat) (hB : B ≤ w.heap.size) (h1 : 1 ≤ n) (h2 : n ≤ 4096) : Calls Try.prog 9 #[.int .i64 n] w (PRNew w B n) := by
  have h1' : ¬ n < 1 := by omega
  have h2' : ¬ 4096 < n := by omega
  obtain ⟨i9, hi9, hz0, hz1, hz2⟩ := info9all
  obtain ⟨m, rfl⟩ : ∃ m : Nat, n = m := ⟨n.toNat, by omega⟩
  go_enter Try.func9, Try.ntmps9
  go_wp2_with (go_at_call 28; refine (zero_any _).mono ?_; rintro e w1 ⟨rfl, hA1⟩)
  have hAw : Adds w w1 := ((Touch.refl _ w).alloc _).trans hA1
  have hb1 : w1.heap[w.heap.size]? = some (.cells #[.slice none 0 0, .slice none 0 0, .int .i64 0, .int .i64 (-1)] 70 (0, 0)) := by
    rw [hA1.block w.heap.size (by simp) id]; exact heap_alloc_new w _
  have HB1 := hid hb1
  clear hb1 hA1
  go_loopw [6] (fun t wr => ∃ k : Nat, k ≤ m ∧ t = .int .i64 k ∧ ∃ hv, Hid (wr.heap[w.heap.size]? = some (.cells #[hv, .slice none 0 0, .int .i64 0, .int .i64 (-1)] 70 (0, 0)) ∧ wr.ownsRow w.heap.size 9 1 hv k (strs (fun _ => zeros) k) ∧ Adds w wr)) (fun t _ => m - (intOf t).toNat)
  case atStart => exact ⟨0, Nat.zero_le _, rfl, .slice none 0 0, HB1.out, World.ownsRow_nil _ _ _ _, hAw⟩
  case round =>
    obtain ⟨k, hk, rfl, hv, HH⟩ := hrel
    clear HB1 hAw
    by_cases hlt : k < m
    · have c0 : wr.cell? ⟨w.heap.size, 0, none⟩ = some hv := cellOf HH.out.1 0
      have hpl : w.heap.size < wr.heap.size := (Array.getElem?_eq_some_iff.1 HH.out.1).1
      have hne : hv.ownBlock ≠ some w.heap.size := fun e => by
        obtain ⟨c, hc⟩ := own_type HH.out.2.1 e
        rw [HH.out.1] at hc; simp at hc
      have HNE := hid hne
      have HOWN := hid (HH.out.2.1.alloc (.cells #[Str zeros] 9))
      have HKEEP := hid (show ∀ w3 v', (wr.alloc (.cells #[Str zeros] 9)).grownBy w3 hv.ownBlock → w3.heap[w.heap.size]? = some (.cells #[hv, .slice none 0 0, .int .i64 0, .int .i64 (-1)] 70 (0, 0)) ∧ w3.frozen? ⟨w.heap.size, 0, none⟩ = false ∧ (w3.setCell ⟨w.heap.size, 0, none⟩ v').heap[w.heap.size]? = some (.cells #[v', .slice none 0 0, .int .i64 0, .int .i64 (-1)] 70 (0, 0)) from fun w3 v' hg => by
        have e : w3.heap[w.heap.size]? = some (.cells #[hv, .slice none 0 0, .int .i64 0, .int .i64 (-1)] 70 (0, 0)) := by
          rw [hg.block _ (by simp; omega) (Ne.symm HNE.out), Below.heap_alloc _ _ _ hpl]; exact HH.out.1
        exact ⟨e, frozen_of_row w3 _ 0 _ 70 e, heap_setCell_same w3 _ 0 _ 70 v' e⟩)
      have H3 := hid (show k + 1 ≤ maxLen by unfold maxLen; omega)
      have H4 := hid (show (k + 1) * 16 ≤ 140737488355328 by omega)
      have H5 := hid (show w.heap.size ≤ (wr.alloc (.cells #[Str zeros] 9)).heap.size by simp; omega)
      clear hne hpl
      go_wp2_with (at_builtin; refine wpList_append_own _ rfl _ _ 67 rfl w.heap.size 9 i9 (Str []) 1 16 Try.underlying67 hi9 hz0 hz1 hz2 rfl (by decide) hv k (strs (fun _ => zeros) k) rfl HOWN.out ⟨wr.heap.size, 0, none⟩ 1 1 [Str zeros] rfl rfl (cell_one_new _ _ _) (one_str _) H3.out H4.out H5.out ?_; intro v' w3 hown' hgrow' _; obtain ⟨g', cap', rfl⟩ := own_some hown'; obtain ⟨HE, HF, HS⟩ := HKEEP.out w3 (.slice (some ⟨g', 0, none⟩) (k + 1) cap') hgrow'; have c3 : w3.cell? ⟨w.heap.size, 0, none⟩ = some hv := cellOf HE 0)
      go_roundw
      case rel =>
        refine ⟨k + 1, by omega, by go_num, _, HS, ?_, ?_⟩
        · rw [strs_zero_snoc] at hown'
          refine own_kept (T := fun j => j = w.heap.size) hown' (Touch.setCell (T := fun j => j = w.heap.size) (Touch.refl _ w3) (fun _ => rfl) _) (fun j hj e => ?_)
          subst e
          obtain ⟨c, hc⟩ := own_type hown' hj
          rw [HE] at hc; simp at hc
        · refine Touch.setCell (T := fun _ => False) (Touch.grown (T := fun _ => False) (HH.out.2.2.alloc _) hgrow' (fun j hj hlt => ?_)) (fun h => absurd h (Nat.lt_irrefl _)) _
          have := (HH.out.2.1.lt j hj).1; omega
      case measure => simp [intOf]; omega
    · obtain rfl : k = m := by omega
      go_wp2
      go_ret2
      refine ⟨w.heap.size, hv, rfl, Nat.le_refl _, ⟨HH.out.1, ?_, World.ownsRow_nil _ _ _ _, fun x hx => (by cases hx), hB, ⟨by show (0 : Int) < k; omega, h2⟩, fun _ => length_zeros, fun x hx => (by cases hx)⟩, HH.out.2.2⟩
      have e : (St.new (k : Int)).size.toNat = k := by show Int.toNat (k : Int) = k; omega
      rw [e]
      exact own_mono HH.out.2.1 hB

set_option maxHeartbeats 400000 in
theorem rread_bad (B p : Nat) (hv wv : Value) (D : St) (i : Int) (w : World) (hd : IsRef w B p hv wv D) (hi : ¬ (0 ≤ i ∧ i < D.size)) :
    Calls Try.prog 38 #[.pointer (some ⟨p, 0, none⟩), .int .i64 i] w fun e w' => e = .returned (.tuple #[Str [], .int .i64 2]) ∧ w' = w := by
  obtain ⟨g, cap, rfl, hcap, _, _, _⟩ := hd.heldAt
  have hs := hd.size
  have c0 : w.cell? ⟨p, 0, none⟩ = some (.slice (some ⟨g, 0, none⟩) D.size.toNat cap) := cellOf hd.box 0
  have hq : ((D.size.toNat : Nat) : Int) = D.size := by omega
  clear hd
  by_cases h0 : i < 0
  · go_enter Try.func38, Try.ntmps38
    go_wp2
    go_ret2
    exact ⟨rfl, rfl⟩
  · have h1 : D.size ≤ i := by omega
    have h2 : decide (D.size ≤ i) = true := by simpa using h1
    clear hi
    go_enter Try.func38, Try.ntmps38
    go_wp2
    go_ret2
    exact ⟨rfl, rfl⟩

set_option maxHeartbeats 400000 in
theorem rread_off (B p : Nat) (hv wv : Value) (D : St) (i : Int) (w : World) (hd : IsRef w B p hv wv D) (hi : 0 ≤ i ∧ i < D.size) (hon : D.left = 0) :
    Calls Try.prog 38 #[.pointer (some ⟨p, 0, none⟩), .int .i64 i] w fun e w' => e = .returned (.tuple #[Str [], .int .i64 10]) ∧ w' = w := by
  obtain ⟨g, cap, rfl, hcap, _, _, _⟩ := hd.heldAt
  have hs := hd.size
  have c0 : w.cell? ⟨p, 0, none⟩ = some (.slice (some ⟨g, 0, none⟩) D.size.toNat cap) := cellOf hd.box 0
  have c3 : w.cell? ⟨p, 3, none⟩ = some (.int .i64 D.left) := cellOf hd.box 3
  rw [hon] at c3
  have hq : ((D.size.toNat : Nat) : Int) = D.size := by omega
  have h0 : ¬ i < 0 := by omega
  have h2 : decide (D.size ≤ i) = false := by simp; omega
  clear hd hi
  go_enter Try.func38, Try.ntmps38
  go_wp2
  go_ret2
  exact ⟨rfl, rfl⟩

theorem hasOf_snoc (H : Int → List UInt8) (W : List (Int × List UInt8)) (i : Int) (k : Nat) (h : k < W.length) : hasOf H (W.take (k + 1)) i = if W[k].1 = i then W[k].2 else hasOf H (W.take k) i := by
  unfold hasOf
  rw [List.take_add_one, List.getElem?_eq_getElem h, Option.toList_some, List.foldl_append, List.foldl_cons, List.foldl_nil]

set_option maxRecDepth 100000 in
set_option maxHeartbeats 1000000 in
theorem rread_ok (B p : Nat) (hv wv : Value) (D : St) (i : Int) (w : World) (hd : IsRef w B p hv wv D) (hl : D.W.length ≤ 1000) (hi : 0 ≤ i ∧ i < D.size) (hon : D.left ≠ 0) :
    Calls Try.prog 38 #[.pointer (some ⟨p, 0, none⟩), .int .i64 i] w fun e w' => e = .returned (.tuple #[Str (hasOf D.H D.W i), .int .i64 0]) ∧ w' = w := by
  obtain ⟨g, cap, rfl, hcap, _, hcell, _⟩ := hd.heldAt
  obtain ⟨ao, wcap, rfl, hwcap, hrest⟩ := hd.waitAt
  have hs := hd.size
  obtain ⟨m, rfl⟩ : ∃ m : Nat, i = m := ⟨i.toNat, by omega⟩
  have c0 : w.cell? ⟨p, 0, none⟩ = some (.slice (some ⟨g, 0, none⟩) D.size.toNat cap) := cellOf hd.box 0
  have c1 : w.cell? ⟨p, 1, none⟩ = some (.slice ao D.W.length wcap) := cellOf hd.box 1
  have c3 : w.cell? ⟨p, 3, none⟩ = some (.int .i64 D.left) := cellOf hd.box 3
  have hm : m < D.size.toNat := by have h9 := hi.2; clear hcell hrest hd c0 c1 c3; omega
  have cm : w.cell? ⟨g, m, none⟩ = some (Str (D.H (m : Int))) := hcell m hm
  have hq : ((D.size.toNat : Nat) : Int) = D.size := Int.toNat_of_nonneg (by have := hs.1; clear hcell hrest hd c0 c1 c3 cm; omega)
  have h0 : ¬ (m : Int) < 0 := by omega
  have h2 : decide (D.size ≤ (m : Int)) = false := by simp; omega
  have h3 : (D.left == 0) = false := by simp [hon]
  have HR := hid hrest
  clear hd hi hon hrest hcell
  go_enter Try.func38, Try.ntmps38
  go_wp2
  go_loop [6, 7] (fun s t => ∃ k : Nat, k ≤ D.W.length ∧ t = .int .i64 k ∧ s = Str (hasOf D.H (D.W.take k) m)) (fun _ t => D.W.length - (intOf t).toNat)
  case atStart => exact ⟨0, Nat.zero_le _, rfl, rfl⟩
  case round =>
    obtain ⟨k, hk, rfl, rfl⟩ := hrel
    by_cases hlt : k < D.W.length
    · obtain ⟨gw, rfl, _, hc, _⟩ := HR.out (by omega)
      have hc0 := (hc k hlt).1
      have hc1 := (hc k hlt).2
      have hsn := hid (hasOf_snoc D.H D.W m k hlt)
      clear hc HR
      by_cases he : D.W[k].1 = (m : Int)
      · have hb : (D.W[k].1 == (m : Int)) = true := by simp [he]
        have HE := hid he
        clear he
        go_wp2
        exact ⟨⟨k + 1, by omega, by go_num, by rw [hsn.out, if_pos HE.out]⟩, by simp [intOf]; omega⟩
      · have hb : (D.W[k].1 == (m : Int)) = false := by simp [he]
        have HE := hid he
        clear he
        go_wp2
        exact ⟨⟨k + 1, by omega, by go_num, by rw [hsn.out, if_neg HE.out]⟩, by simp [intOf]; omega⟩
    · obtain rfl : k = D.W.length := by omega
      go_wp2
      go_ret2
      exact ⟨rfl, rfl⟩

end Go.Proofs.Ytjjknckcodhnmaa
