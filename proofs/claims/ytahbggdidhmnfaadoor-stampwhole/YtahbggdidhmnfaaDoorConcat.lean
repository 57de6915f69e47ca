/- Clone, Read; slices of bytes joined in new memory. -/
import Derived.Test.YtahbggdidhmnfaaDoorReads
namespace Go.Proofs.YtahbggdidhmnfaaDoor
open Go.RowKit

theorem Own.lies {w : World} {base : Nat} {v : Value} {bs : List UInt8} (h : w.ownsRow base 5 1 v bs.length (S bs)) : ∃ a cap, v = .slice a bs.length cap ∧ Lies w w.heap.size a bs cap := by
  rcases h.2 with ⟨rfl, e⟩ | ⟨g, cap, cur, rfl, hb, hg, hc, h2, h3, h4⟩
  · obtain rfl : bs = [] := List.eq_nil_of_length_eq_zero e
    exact ⟨none, 0, rfl, Lies.nil _ _⟩
  · refine ⟨_, cap, rfl, At.own h, hc, fun e => (by cases e), fun ad e => ?_⟩
    obtain rfl : (⟨g, 0, none⟩ : Addr) = ad := by simpa using e
    exact ⟨rfl, by
      rcases Nat.lt_or_ge g w.heap.size with h | h
      · exact h
      · rw [Array.getElem?_eq_none h] at hg; cases hg⟩

/-- Bytes in new memory. -/
def POwn (w : World) (bs : List UInt8) (e : Ending) (w' : World) : Prop := ∃ v, e = .returned v ∧ w'.ownsRow w.heap.size 5 1 v bs.length (S bs) ∧ Adds w w'

set_option maxHeartbeats 400000 in
theorem clone_nil (w : World) : Calls Tryd.prog 46 #[.slice none 0 0] w fun e w' => e = .returned (.slice none 0 0) ∧ w' = w := by
  have he := Lib.run_eql_slice_nil (P := Tryd.prog) w 23 5 none 0 0 0 0 Tryd.underlying23
  go_enter Tryd.func46, Tryd.ntmps46
  go_wp2
  go_ret
  exact ⟨rfl, rfl⟩
set_option maxHeartbeats 400000 in
theorem clone_some (ad : Addr) (bs : List UInt8) (cap : Nat) (w : World) (hl : bs.length ≤ 1000000) (hA : At w (some ad) bs) :
    Calls Tryd.prog 46 #[.slice (some ad) bs.length cap] w (POwn w bs) := by
  have HA := hid (hA.adds ((Touch.refl _ w).alloc (.cells #[] 5)))
  have HO := hid (World.ownsRow_lit (base := w.heap.size) (e := 5) (size := 1) w #[] 0 (Nat.le_refl _) (by decide) rfl)
  have HL := hid hl
  have he := Lib.run_eql_slice_nil (P := Tryd.prog) w 23 5 (some ad) bs.length cap 0 0 Tryd.underlying23
  clear hA hl
  go_enter Tryd.func46, Tryd.ntmps46
  go_wp2_with (first
    | (at_builtin; refine append_bytes rfl _ _ rfl w.heap.size (.slice (some ⟨w.heap.size, 0, none⟩) 0 0) 0 [] rfl HO.out (some ad) bs cap rfl (fun e => by cases e) HA.out (by have := HL.out; omega) (by simp) ?_; intro v1 w1 hown1 hgrow1 hne1; have HQ := hid (And.intro hown1 (show Adds w w1 from Touch.grown ((Touch.refl _ w).alloc _) hgrow1 (fun k hk hlt => by simp [Value.ownBlock] at hk; omega))); clear hown1 hgrow1 hne1))
  go_ret
  exact ⟨_, rfl, by have h := HQ.out.1; rw [Nat.zero_add, List.nil_append] at h; exact h, HQ.out.2⟩
/-- Bytes of one's own. -/
def PClone (w : World) (bs : List UInt8) (e : Ending) (w' : World) : Prop := ∃ a cap, e = .returned (.slice a bs.length cap) ∧ Lies w' w'.heap.size a bs cap ∧ Adds w w'
theorem clone_any (a : Option Addr) (bs : List UInt8) (cap : Nat) (w : World) (hl : bs.length ≤ 1000000) (hcap : a = none → cap = 0) (hA : At w a bs) : Calls Tryd.prog 46 #[.slice a bs.length cap] w (PClone w bs) := by
  cases a with
  | none =>
    obtain rfl := hcap rfl
    obtain rfl : bs = [] := by
      cases bs with
      | nil => rfl
      | cons c bs => obtain ⟨b, o', e, _⟩ := hA 0 c rfl; cases e
    refine (clone_nil w).mono ?_
    rintro e w' ⟨rfl, rfl⟩
    exact ⟨none, 0, rfl, Lies.nil _ _, Touch.refl _ _⟩
  | some ad =>
    refine (clone_some ad bs cap w hl hA).mono ?_
    rintro e w' ⟨v, rfl, h1, h2⟩
    obtain ⟨a, cap, rfl, h3⟩ := Own.lies h1
    exact ⟨a, cap, rfl, h3, h2⟩
/-- What Read makes. -/
def PRead (w : World) (bs : List UInt8) (e : Ending) (w' : World) : Prop := ∃ p, e = .returned (.pointer (some ⟨p, 0, none⟩)) ∧ w.heap.size ≤ p ∧ RD w' (.pointer (some ⟨p, 0, none⟩)) ⟨0, bs⟩ ∧ Adds w w'
set_option maxHeartbeats 400000 in
theorem read_any (a : Option Addr) (bs : List UInt8) (cap : Nat) (w : World) (hl : bs.length ≤ 1000000) (hcap : a = none → cap = 0) (hA : At w a bs) : Calls Tryd.prog 39 #[.slice a bs.length cap] w (PRead w bs) := by
  have H := hid (clone_any a bs cap w hl hcap hA)
  have HL := hid hl
  clear hcap hA hl
  go_enter Tryd.func39, Tryd.ntmps39
  go_wp2_with (first | (go_at_call 46; refine H.out.mono ?_; rintro e w1 ⟨a1, cap1, rfl, h1, h2⟩; have HQ := hid (And.intro h1 h2); clear h1 h2))
  go_ret
  have hA : Adds w (w1.alloc (.cells #[.bool true, .int .i64 0, .slice a1 bs.length cap1] 74)) := HQ.out.2.alloc _
  refine ⟨w1.heap.size, rfl, HQ.out.2.size, .inr (.inr ⟨_, rfl, ⟨⟨a1, cap1, heap_alloc_new w1 _, ?_⟩, fun h => absurd rfl h, HL.out, by simp⟩⟩), hA⟩
  exact HQ.out.1.adds ((Touch.refl _ w1).alloc _)

theorem zeros_size (n : Nat) : (Builtin.zeroCells #[Value.int .u8 0] n).size = n := by simp [Builtin.zeroCells]
set_option maxHeartbeats 400000 in
theorem grow_none (w : World) : Calls Tryd.prog 43 #[.slice none 0 0, .int .i64 0] w fun e w' => e = .returned (.slice none 0 0) ∧ w' = w := by
  go_enter Tryd.func43, Tryd.ntmps43
  go_wp2
  go_ret
  exact ⟨rfl, rfl⟩
set_option maxHeartbeats 400000 in
theorem grow_some (n : Nat) (hn : 0 < n) (hn2 : n ≤ 10000000) (w : World) : Calls Tryd.prog 43 #[.slice none 0 0, .int .i64 (n : Int)] w (POwn w []) := by
  obtain ⟨i0, hi, hz0, hz1, hz2⟩ := info5all
  have hr := hid (fun ty => Lib.run_append_nil_zeros (P := Tryd.prog) w 23 3 ty 5 i0 (.int .u8 0) .i64 .i64 Tryd.underlying23 Tryd.underlying3 hi hz0 n hn (by omega) (by omega) (by rw [hz2]; omega))
  clear hi hz0 hz1 hz2
  have hn' : (0 : Int) < (n : Int) := by omega
  go_enter Tryd.func43, Tryd.ntmps43
  go_wp2_with (first | (at_builtin; refine Lib.wpList_append_run _ rfl _ _ _ _ rfl _ _ rfl rfl _ _ (hr.out _) ?_))
  go_ret
  refine ⟨.slice (some ⟨w.heap.size, 0, none⟩) 0 (grownCap w n 0 5), rfl, ?_, (Touch.refl _ w).drew.alloc _⟩
  refine World.ownsRow_made (base := w.heap.size) w.drew _ _ (Nat.le_refl _) (grownCap_le_maxLen w n 0 5 (by unfold maxLen; omega)) ?_
  rw [Array.size_append, zeros_size, zeros_size]
  have := grownCap_ge w n 0 5
  omega
theorem grow_any (n : Nat) (hn : n ≤ 10000000) (w : World) : Calls Tryd.prog 43 #[.slice none 0 0, .int .i64 (n : Int)] w (POwn w []) := by
  rcases Nat.eq_zero_or_pos n with rfl | h0
  · refine (grow_none w).mono ?_
    rintro e w' ⟨rfl, rfl⟩
    exact ⟨_, rfl, World.ownsRow_nil _ _ _ _, Touch.refl _ _⟩
  · exact grow_some n h0 hn w

/-- A slice: where it lies, its bytes, its room. -/
structure Part where
  a : Option Addr
  bs : List UInt8
  cap : Nat
def flat (L : List Part) : List UInt8 := (L.map (·.bs)).flatten
theorem flat_next {L : List Part} {k : Nat} {x : Part} (h : L[k]? = some x) : flat (L.take (k + 1)) = flat (L.take k) ++ x.bs := by
  unfold flat
  rw [List.take_add_one, h]; simp
theorem flat_len (L : List Part) (k : Nat) : (flat (L.take k)).length ≤ (flat L).length := by
  have : flat L = flat (L.take k) ++ flat (L.drop k) := by
    unfold flat
    rw [← List.flatten_append, ← List.map_append, List.take_append_drop]
  rw [this, List.length_append]; omega
/-- Slices that lie in a row. -/
def Parts (w : World) (g : Nat) (L : List Part) : Prop := ∀ j x, L[j]? = some x → w.cell? ⟨g, j, none⟩ = some (.slice x.a x.bs.length x.cap) ∧ At w x.a x.bs ∧ (x.a = none → x.cap = 0)
theorem Parts.adds {w w' : World} {g : Nat} {L : List Part} (h : Parts w g L) (hA : Adds w w') : Parts w' g L := by
  intro j x hj
  obtain ⟨h1, h2, h3⟩ := h j x hj
  exact ⟨by rw [World.cell?_of_block (w := w) (hA.block g (World.block_lt_of_cell? w _ h1) id)]; exact h1, h2.adds hA, h3⟩
set_option maxRecDepth 100000 in
set_option maxHeartbeats 1000000 in
theorem concat_any (g : Nat) (L : List Part) (w : World) (hL : L.length ≤ 1000) (hf : (flat L).length ≤ 10000000) (hP : Parts w g L) : Calls Tryd.prog 30 #[.slice (some ⟨g, 0, none⟩) L.length L.length] w (POwn w (flat L)) := by
  have HP := hid hP
  have HG := hid (grow_any (flat L).length hf w)
  clear hP
  go_enter Tryd.func30, Tryd.ntmps30
  go_wp2
  go_loopw [3, 11] (fun x i wr => ∃ k : Nat, k ≤ L.length ∧ x = .int .i64 ((flat (L.take k)).length : Int) ∧ i = .int .i64 (k : Int) ∧ wr = w) (fun _ i _ => L.length - (intOf i).toNat)
  case atStart => exact ⟨0, by omega, rfl, rfl, rfl⟩
  case round =>
    obtain ⟨k, hk, rfl, rfl, hw⟩ := hrel
    obtain rfl := hw.symm
    by_cases hlt : k < L.length
    · obtain ⟨x, hx⟩ : ∃ x, L[k]? = some x := ⟨L[k], List.getElem?_eq_getElem hlt⟩
      obtain ⟨hcell, _, _⟩ := HP.out k x hx
      have hn := flat_len L (k + 1)
      have HN := hid (show (flat (L.take (k + 1))).length = (flat (L.take k)).length + x.bs.length by rw [flat_next hx, List.length_append])
      rw [HN.out] at hn
      clear hx
      generalize (flat (L.take k)).length = y at *
      go_wp2
      go_roundw
      case rel => exact ⟨k + 1, by omega, by rw [HN.out]; simp, by go_num, by first | rfl | trivial⟩
      case measure => simp [intOf]; omega
    · obtain rfl : k = L.length := by omega
      rw [List.take_length]
      go_wp2_with (first | (go_at_call 43; refine HG.out.mono ?_; rintro e w1 ⟨v0, rfl, h1, h2⟩; have HQ := hid (And.intro h1 h2); clear h1 h2))
      go_loopw [6, 27] (fun v i wz => ∃ k : Nat, k ≤ L.length ∧ i = .int .i64 (k : Int) ∧ Hid (wz.ownsRow w.heap.size 5 1 v (flat (L.take k)).length (S (flat (L.take k))) ∧ Adds w wz)) (fun _ i _ => L.length - (intOf i).toNat)
      case atStart => exact ⟨0, by omega, rfl, HQ.out.1, HQ.out.2⟩
      case round =>
        obtain ⟨k, hk, rfl, HI⟩ := hrel
        by_cases hlt : k < L.length
        · obtain ⟨x, hx⟩ : ∃ x, L[k]? = some x := ⟨L[k], List.getElem?_eq_getElem hlt⟩
          obtain ⟨hcell, hAt, hno⟩ := (HP.out.adds HI.out.2) k x hx
          have HN := hid (flat_next hx)
          have hn := flat_len L (k + 1)
          rw [HN.out, List.length_append] at hn
          have HA := hid (And.intro hAt (And.intro hno hn))
          clear hx hAt hno hn
          go_wp2_with (first
            | (at_builtin; refine append_bytes rfl _ _ rfl w.heap.size _ (flat (L.take k)).length (S (flat (L.take k))) rfl HI.out.1 x.a x.bs x.cap rfl HA.out.2.1 HA.out.1 (by have := HA.out.2.2; omega) HI.out.2.size ?_; intro v1 w1 hown1 hgrow1 hne1; have HQ1 := hid (And.intro hown1 hgrow1); clear hown1 hgrow1 hne1))
          go_roundw
          case rel =>
            refine ⟨k + 1, by omega, by go_num, ?_, ?_⟩
            · have h := HQ1.out.1
              rw [HN.out, List.length_append]
              rw [S, List.map_append]
              exact h
            · exact Touch.grown HI.out.2 HQ1.out.2 (fun j hj hlt => by have := (HI.out.1.lt j hj).1; omega)
          case measure => simp [intOf]; omega
        · obtain rfl : k = L.length := by omega
          go_wp2
          go_ret
          have h := HI.out.1
          rw [List.take_length] at h
          exact ⟨_, rfl, h, HI.out.2⟩
end Go.Proofs.YtahbggdidhmnfaaDoor
