/- Texts put together: Reads, Concat, Put, Put2, Put3, Keep, RPut. -/
import Derived.Test.YtplppnngmlljnaaQ03
/- Int, Text and Float, of a reader and of the reference's. -/
namespace Go.Proofs.Ytplppnngmlljnaa
open Go.RowKit

set_option maxHeartbeats 400000 in
theorem text_any {v : Value} {s : M.St} {w : World} (z : Int) (hz : -9223372036854775808 ≤ z ∧ z ≤ 9223372036854775807) (h : RD w v s) : Calls Try.prog 47 #[v, .int .i64 z] w (PR w v (Str (M.textR z s).1) (M.textR z s).2) := by
  have H := hid (uint_any (M.atLeast0 z) h)
  obtain ⟨u, hu⟩ : ∃ u, M.uintR (M.atLeast0 z) s = u := ⟨_, rfl⟩
  have hle : u.1 ≤ M.atLeast0 z := by rw [← hu]; exact (M.uintR_lt _ s).2
  have HX := hid (show M.textR z s = M.takeR u.1 u.2 by rw [← hu]; rfl)
  rw [hu] at H
  clear h hu
  obtain ⟨n, s'⟩ := u
  have H2 := hid (fun w' (h : RD w' v s') => take_any n h)
  rw [HX.out]
  by_cases hz0 : z < 0
  · have hat : (M.atLeast0 z : Int) = 0 := by rw [M.atLeast0, if_pos hz0]; rfl
    have hn : (n : Int) ≤ 9223372036854775807 := by simp only at hle; omega
    rw [hat] at H
    clear hle hat HX
    go_enter Try.func47, Try.ntmps47
    go_wp2_with (first
      | (go_at_call 75; refine H.out.mono ?_; rintro e w1 ⟨rfl, h1, h2⟩; have HR := hid h1; have HT := hid h2; clear h1 h2)
      | (go_at_call 76; refine (H2.out _ HR.out).mono ?_; rintro e w2 ⟨a, cap, rfl, hAt, hRD, hT⟩; have hcv := conv_at w2 a _ cap hAt; have HQ := hid (And.intro hRD hT); clear hAt hRD hT))
    all_goals first | omega | (go_ret; exact ⟨rfl, HQ.out.1, HT.out.trans HQ.out.2⟩)
  · have hat : (M.atLeast0 z : Int) = z := by rw [M.atLeast0, if_neg hz0]; omega
    have hn : (n : Int) ≤ 9223372036854775807 := by simp only at hle; omega
    rw [hat] at H
    clear hle hat HX
    go_enter Try.func47, Try.ntmps47
    go_wp2_with (first
      | (go_at_call 75; refine H.out.mono ?_; rintro e w1 ⟨rfl, h1, h2⟩; have HR := hid h1; have HT := hid h2; clear h1 h2)
      | (go_at_call 76; refine (H2.out _ HR.out).mono ?_; rintro e w2 ⟨a, cap, rfl, hAt, hRD, hT⟩; have hcv := conv_at w2 a _ cap hAt; have HQ := hid (And.intro hRD hT); clear hAt hRD hT))
    all_goals first | omega | (go_ret; exact ⟨rfl, HQ.out.1, HT.out.trans HQ.out.2⟩)

end Go.Proofs.Ytplppnngmlljnaa

/- Clone, Read; slices of bytes joined in new memory. -/
namespace Go.Proofs.Ytplppnngmlljnaa
open Go.RowKit

theorem Own.lies {w : World} {base : Nat} {v : Value} {bs : List UInt8} (h : w.ownsRow base 5 1 v bs.length (S bs)) : ∃ a cap, v = .slice a bs.length cap ∧ Lies w w.heap.size a bs cap := by
  rcases h.2 with ⟨rfl, e⟩ | ⟨g, cap, cur, rfl, hb, hg, hc, h2, h3, h4⟩
  · obtain rfl : bs = [] := List.eq_nil_of_length_eq_zero e
    exact ⟨none, 0, rfl, Lies.nil _ _⟩
  · refine ⟨_, cap, rfl, At.own h, hc, fun e => (by cases e), fun ad e => ?_⟩
    obtain rfl : (⟨g, 0, none⟩ : Addr) = ad := by simpa using e
    exact ⟨rfl, by
      rcases Nat.lt_or_ge g w.heap.size with h | h
      · exact h
      · rw [Array.getElem?_eq_none h] at hg; cases hg⟩

/-- Bytes in new memory. -/
def POwn (w : World) (bs : List UInt8) (e : Ending) (w' : World) : Prop := ∃ v, e = .returned v ∧ w'.ownsRow w.heap.size 5 1 v bs.length (S bs) ∧ Adds w w'

set_option maxHeartbeats 400000 in
theorem clone_nil (w : World) : Calls Try.prog 74 #[.slice none 0 0] w fun e w' => e = .returned (.slice none 0 0) ∧ w' = w := by
  have he := Lib.run_eql_slice_nil (P := Try.prog) w 30 5 none 0 0 0 0 Try.underlying30
  go_enter Try.func74, Try.ntmps74
  go_wp2
  go_ret
  exact ⟨rfl, rfl⟩
set_option maxHeartbeats 400000 in
theorem clone_some (ad : Addr) (bs : List UInt8) (cap : Nat) (w : World) (hl : bs.length ≤ 1000000) (hA : At w (some ad) bs) :
    Calls Try.prog 74 #[.slice (some ad) bs.length cap] w (POwn w bs) := by
  have HA := hid (hA.adds ((Touch.refl _ w).alloc (.cells #[] 5)))
  have HO := hid (World.ownsRow_lit (base := w.heap.size) (e := 5) (size := 1) w #[] 0 (Nat.le_refl _) (by decide) rfl)
  have HL := hid hl
  have he := Lib.run_eql_slice_nil (P := Try.prog) w 30 5 (some ad) bs.length cap 0 0 Try.underlying30
  clear hA hl
  go_enter Try.func74, Try.ntmps74
  go_wp2_with (first
    | (at_builtin; refine append_bytes rfl _ _ rfl w.heap.size (.slice (some ⟨w.heap.size, 0, none⟩) 0 0) 0 [] rfl HO.out (some ad) bs cap rfl (fun e => by cases e) HA.out (by have := HL.out; omega) (by simp) ?_; intro v1 w1 hown1 hgrow1 hne1; have HQ := hid (And.intro hown1 (show Adds w w1 from Touch.grown ((Touch.refl _ w).alloc _) hgrow1 (fun k hk hlt => by simp [Value.ownBlock] at hk; omega))); clear hown1 hgrow1 hne1))
  go_ret
  exact ⟨_, rfl, by have h := HQ.out.1; rw [Nat.zero_add, List.nil_append] at h; exact h, HQ.out.2⟩
/-- Bytes of one's own. -/
def PClone (w : World) (bs : List UInt8) (e : Ending) (w' : World) : Prop := ∃ a cap, e = .returned (.slice a bs.length cap) ∧ Lies w' w'.heap.size a bs cap ∧ Adds w w'
theorem clone_any (a : Option Addr) (bs : List UInt8) (cap : Nat) (w : World) (hl : bs.length ≤ 1000000) (hcap : a = none → cap = 0) (hA : At w a bs) : Calls Try.prog 74 #[.slice a bs.length cap] w (PClone w bs) := by
  cases a with
  | none =>
    obtain rfl := hcap rfl
    obtain rfl : bs = [] := by
      cases bs with
      | nil => rfl
      | cons c bs => obtain ⟨b, o', e, _⟩ := hA 0 c rfl; cases e
    refine (clone_nil w).mono ?_
    rintro e w' ⟨rfl, rfl⟩
    exact ⟨none, 0, rfl, Lies.nil _ _, Touch.refl _ _⟩
  | some ad =>
    refine (clone_some ad bs cap w hl hA).mono ?_
    rintro e w' ⟨v, rfl, h1, h2⟩
    obtain ⟨a, cap, rfl, h3⟩ := Own.lies h1
    exact ⟨a, cap, rfl, h3, h2⟩
/-- What Read makes. -/
def PRead (w : World) (bs : List UInt8) (e : Ending) (w' : World) : Prop := ∃ p, e = .returned (.pointer (some ⟨p, 0, none⟩)) ∧ w.heap.size ≤ p ∧ RD w' (.pointer (some ⟨p, 0, none⟩)) ⟨0, bs⟩ ∧ Adds w w'
set_option maxHeartbeats 400000 in
theorem read_any (a : Option Addr) (bs : List UInt8) (cap : Nat) (w : World) (hl : bs.length ≤ 1000000) (hcap : a = none → cap = 0) (hA : At w a bs) : Calls Try.prog 46 #[.slice a bs.length cap] w (PRead w bs) := by
  have H := hid (clone_any a bs cap w hl hcap hA)
  have HL := hid hl
  clear hcap hA hl
  go_enter Try.func46, Try.ntmps46
  go_wp2_with (first | (go_at_call 74; refine H.out.mono ?_; rintro e w1 ⟨a1, cap1, rfl, h1, h2⟩; have HQ := hid (And.intro h1 h2); clear h1 h2))
  go_ret
  have hA : Adds w (w1.alloc (.cells #[.bool true, .int .i64 0, .slice a1 bs.length cap1] 114)) := HQ.out.2.alloc _
  refine ⟨w1.heap.size, rfl, HQ.out.2.size, .inr (.inr ⟨_, rfl, ⟨⟨a1, cap1, heap_alloc_new w1 _, ?_⟩, fun h => absurd rfl h, HL.out, by simp⟩⟩), hA⟩
  exact HQ.out.1.adds ((Touch.refl _ w1).alloc _)

theorem zeros_size (n : Nat) : (Builtin.zeroCells #[Value.int .u8 0] n).size = n := by simp [Builtin.zeroCells]
set_option maxHeartbeats 400000 in
theorem grow_none (w : World) : Calls Try.prog 96 #[.slice none 0 0, .int .i64 0] w fun e w' => e = .returned (.slice none 0 0) ∧ w' = w := by
  go_enter Try.func96, Try.ntmps96
  go_wp2
  go_ret
  exact ⟨rfl, rfl⟩
set_option maxHeartbeats 400000 in
theorem grow_some (n : Nat) (hn : 0 < n) (hn2 : n ≤ 10000000) (w : World) : Calls Try.prog 96 #[.slice none 0 0, .int .i64 (n : Int)] w (POwn w []) := by
  obtain ⟨i0, hi, hz0, hz1, hz2⟩ := info5all
  have hr := hid (fun ty => Lib.run_append_nil_zeros (P := Try.prog) w 30 3 ty 5 i0 (.int .u8 0) .i64 .i64 Try.underlying30 Try.underlying3 hi hz0 n hn (by omega) (by omega) (by rw [hz2]; omega))
  clear hi hz0 hz1 hz2
  have hn' : (0 : Int) < (n : Int) := by omega
  go_enter Try.func96, Try.ntmps96
  go_wp2_with (first | (at_builtin; refine Lib.wpList_append_run _ rfl _ _ _ _ rfl _ _ rfl rfl _ _ (hr.out _) ?_))
  go_ret
  refine ⟨.slice (some ⟨w.heap.size, 0, none⟩) 0 (grownCap w n 0 5), rfl, ?_, (Touch.refl _ w).drew.alloc _⟩
  refine World.ownsRow_made (base := w.heap.size) w.drew _ _ (Nat.le_refl _) (grownCap_le_maxLen w n 0 5 (by unfold maxLen; omega)) ?_
  rw [Array.size_append, zeros_size, zeros_size]
  have := grownCap_ge w n 0 5
  omega
theorem grow_any (n : Nat) (hn : n ≤ 10000000) (w : World) : Calls Try.prog 96 #[.slice none 0 0, .int .i64 (n : Int)] w (POwn w []) := by
  rcases Nat.eq_zero_or_pos n with rfl | h0
  · refine (grow_none w).mono ?_
    rintro e w' ⟨rfl, rfl⟩
    exact ⟨_, rfl, World.ownsRow_nil _ _ _ _, Touch.refl _ _⟩
  · exact grow_some n h0 hn w

/-- A slice: where it lies, its bytes, its room. -/
structure Part where
  a : Option Addr
  bs : List UInt8
  cap : Nat
def flat (L : List Part) : List UInt8 := (L.map (·.bs)).flatten
theorem flat_next {L : List Part} {k : Nat} {x : Part} (h : L[k]? = some x) : flat (L.take (k + 1)) = flat (L.take k) ++ x.bs := by
  unfold flat
  rw [List.take_add_one, h]; simp
theorem flat_len (L : List Part) (k : Nat) : (flat (L.take k)).length ≤ (flat L).length := by
  have : flat L = flat (L.take k) ++ flat (L.drop k) := by
    unfold flat
    rw [← List.flatten_append, ← List.map_append, List.take_append_drop]
  rw [this, List.length_append]; omega
/-- Slices that lie in a row. -/
def Parts (w : World) (g : Nat) (L : List Part) : Prop := ∀ j x, L[j]? = some x → w.cell? ⟨g, j, none⟩ = some (.slice x.a x.bs.length x.cap) ∧ At w x.a x.bs ∧ (x.a = none → x.cap = 0)
theorem Parts.adds {w w' : World} {g : Nat} {L : List Part} (h : Parts w g L) (hA : Adds w w') : Parts w' g L := by
  intro j x hj
  obtain ⟨h1, h2, h3⟩ := h j x hj
  exact ⟨by rw [World.cell?_of_block (w := w) (hA.block g (World.block_lt_of_cell? w _ h1) id)]; exact h1, h2.adds hA, h3⟩
set_option maxRecDepth 100000 in
set_option maxHeartbeats 1000000 in
theorem concat_any (g : Nat) (L : List Part) (w : World) (hL : L.length ≤ 1000) (hf : (flat L).length ≤ 10000000) (hP : Parts w g L) : Calls Try.prog 85 #[.slice (some ⟨g, 0, none⟩) L.length L.length] w (POwn w (flat L)) := by
  have HP := hid hP
  have HG := hid (grow_any (flat L).length hf w)
  clear hP
  go_enter Try.func85, Try.ntmps85
  go_wp2
  go_loopw [3, 11] (fun x i wr => ∃ k : Nat, k ≤ L.length ∧ x = .int .i64 ((flat (L.take k)).length : Int) ∧ i = .int .i64 (k : Int) ∧ wr = w) (fun _ i _ => L.length - (intOf i).toNat)
  case atStart => exact ⟨0, by omega, rfl, rfl, rfl⟩
  case round =>
    obtain ⟨k, hk, rfl, rfl, hw⟩ := hrel
    obtain rfl := hw.symm
    by_cases hlt : k < L.length
    · obtain ⟨x, hx⟩ : ∃ x, L[k]? = some x := ⟨L[k], List.getElem?_eq_getElem hlt⟩
      obtain ⟨hcell, _, _⟩ := HP.out k x hx
      have hn := flat_len L (k + 1)
      have HN := hid (show (flat (L.take (k + 1))).length = (flat (L.take k)).length + x.bs.length by rw [flat_next hx, List.length_append])
      rw [HN.out] at hn
      clear hx
      generalize (flat (L.take k)).length = y at *
      go_wp2
      go_roundw
      case rel => exact ⟨k + 1, by omega, by rw [HN.out]; simp, by go_num, by first | rfl | trivial⟩
      case measure => simp [intOf]; omega
    · obtain rfl : k = L.length := by omega
      rw [List.take_length]
      go_wp2_with (first | (go_at_call 96; refine HG.out.mono ?_; rintro e w1 ⟨v0, rfl, h1, h2⟩; have HQ := hid (And.intro h1 h2); clear h1 h2))
      go_loopw [6, 27] (fun v i wz => ∃ k : Nat, k ≤ L.length ∧ i = .int .i64 (k : Int) ∧ Hid (wz.ownsRow w.heap.size 5 1 v (flat (L.take k)).length (S (flat (L.take k))) ∧ Adds w wz)) (fun _ i _ => L.length - (intOf i).toNat)
      case atStart => exact ⟨0, by omega, rfl, HQ.out.1, HQ.out.2⟩
      case round =>
        obtain ⟨k, hk, rfl, HI⟩ := hrel
        by_cases hlt : k < L.length
        · obtain ⟨x, hx⟩ : ∃ x, L[k]? = some x := ⟨L[k], List.getElem?_eq_getElem hlt⟩
          obtain ⟨hcell, hAt, hno⟩ := (HP.out.adds HI.out.2) k x hx
          have HN := hid (flat_next hx)
          have hn := flat_len L (k + 1)
          rw [HN.out, List.length_append] at hn
          have HA := hid (And.intro hAt (And.intro hno hn))
          clear hx hAt hno hn
          go_wp2_with (first
            | (at_builtin; refine append_bytes rfl _ _ rfl w.heap.size _ (flat (L.take k)).length (S (flat (L.take k))) rfl HI.out.1 x.a x.bs x.cap rfl HA.out.2.1 HA.out.1 (by have := HA.out.2.2; omega) HI.out.2.size ?_; intro v1 w1 hown1 hgrow1 hne1; have HQ1 := hid (And.intro hown1 hgrow1); clear hown1 hgrow1 hne1))
          go_roundw
          case rel =>
            refine ⟨k + 1, by omega, by go_num, ?_, ?_⟩
            · have h := HQ1.out.1
              rw [HN.out, List.length_append]
              rw [S, List.map_append]
              exact h
            · exact Touch.grown HI.out.2 HQ1.out.2 (fun j hj hlt => by have := (HI.out.1.lt j hj).1; omega)
          case measure => simp [intOf]; omega
        · obtain rfl : k = L.length := by omega
          go_wp2
          go_ret
          have h := HI.out.1
          rw [List.take_length] at h
          exact ⟨_, rfl, h, HI.out.2⟩
end Go.Proofs.Ytplppnngmlljnaa

/- Numbers as bytes: groups, PutUint, PutInt, PutText, PutFixed, PutFloat. -/
namespace Go.Proofs.Ytplppnngmlljnaa
open Go.RowKit

set_option maxRecDepth 100000 in
theorem make10 (w : World) : (Instr.makeSlice 30 (.int .i64 0) (.int .i64 10)).run Try.prog w = .ok (.slice (some ⟨w.heap.size, 0, none⟩) 0 10) (w.alloc (.cells (madeCells #[.int .u8 0] 10) 5)) := by
  obtain ⟨i0, hi, hz0, hz1, hz2⟩ := info5all
  have := run_make (P := Try.prog) w 30 5 i0 (.int .u8 0) Try.underlying30 hi hz0 .i64 .i64 0 10 (by decide) (by omega) (by rw [hz2]; omega) (by omega)
  rw [this, hz1]
  rfl
set_option maxRecDepth 100000 in
theorem At.one (w : World) (c : UInt8) : At (w.alloc (.cells #[.int .u8 (c.toNat : Int)] 5)) (some ⟨w.heap.size, 0, none⟩) [c] := by
  intro j x hj
  refine ⟨_, _, rfl, ?_⟩
  rw [cell_of_row _ _ _ _ _ _ (heap_alloc_new w _)]
  match j, hj with
  | 0, hj => obtain rfl : c = x := Option.some.inj hj; rfl
  | j + 1, hj => simp at hj
set_option maxRecDepth 100000 in
theorem or128 (m : Nat) : bits .or .u8 ((m : Int) % 256) 128 = ((UInt8.ofNat (m % 128 + 128)).toNat : Int) := by
  rw [M.ofNat_toNat _ (by omega), show (m : Int) % 256 = ((m % 256 : Nat) : Int) by omega, show (128 : Int) = ((128 : Nat) : Int) from rfl, u8_or_nat _ _ (by omega) (by omega)]
  congr 1
  have h1 : m % 256 = m % 128 + m / 128 % 2 * 2 ^ 7 := by omega
  have h2 : m % 128 ||| m / 128 % 2 * 2 ^ 7 = m % 128 + m / 128 % 2 * 2 ^ 7 := or_add _ _ 7 (by omega)
  have h3 : m % 128 ||| 128 = m % 128 + 128 := by have := or_add (m % 128) 1 7 (by omega); simpa using this
  rw [h1, ← h2, Nat.or_assoc]
  rcases Nat.mod_two_eq_zero_or_one (m / 128) with h | h
  · rw [h]; simpa using h3
  · rw [h]; simpa using h3

set_option maxRecDepth 100000 in
set_option maxHeartbeats 1000000 in
theorem groups_any (n : Nat) (hn : n < 18446744073709551616) (w : World) : Calls Try.prog 86 #[.int .u64 (n : Int)] w (POwn w (M.enc n)) := by
  have hmk := make10 w
  have HO := hid (World.ownsRow_made (base := w.heap.size) (e := 5) (size := 1) w (madeCells #[.int .u8 0] 10) 10 (Nat.le_refl _) (by unfold maxLen; omega) (by rw [size_madeCells]))
  go_enter Try.func86, Try.ntmps86
  go_wp2
  go_loopw [0, 3] (fun x v wz => ∃ (m : Nat) (pre : List UInt8), x = .int .u64 (m : Int) ∧ Hid (m ≤ n ∧ pre ++ M.enc m = M.enc n ∧ wz.ownsRow w.heap.size 5 1 v pre.length (S pre) ∧ Adds w wz)) (fun x _ _ => (intOf x).toNat)
  case atStart => exact ⟨n, [], rfl, Nat.le_refl _, rfl, HO.out, (Touch.refl _ w).alloc _⟩
  case round =>
    obtain ⟨m, pre, rfl, HI⟩ := hrel
    have hm : m < 18446744073709551616 := by have := HI.out.1; omega
    have hpl : pre.length ≤ 10 := by have h := congrArg List.length HI.out.2.1; rw [List.length_append] at h; have := M.len_enc10 hn; omega
    have HT := hid (fun (w1 : World) (x : Obj) (v : Value) (hv : wr.ownsRow w.heap.size 5 1 v pre.length (S pre)) (hg : (wr.alloc x).grownBy w1 v.ownBlock) =>
      show Adds w w1 from Touch.grown (HI.out.2.2.2.alloc x) hg (fun j hj hlt => by have := (hv.lt j hj).1; omega))
    by_cases h128 : m < 128
    · obtain ⟨c, hc⟩ : ∃ c : UInt8, c = UInt8.ofNat m := ⟨_, rfl⟩
      obtain rfl : m = c.toNat := by rw [hc, M.ofNat_toNat _ (by omega)]
      have HE := hid (show pre ++ [c] = M.enc n by rw [← HI.out.2.1, M.enc_small h128, ← hc])
      clear hmk hc
      go_wp2_with (first
        | (at_builtin; refine append_bytes rfl _ _ rfl w.heap.size _ pre.length (S pre) rfl (HI.out.2.2.1.kept (World.grownBy_alloc wr _ none) (own_none _)) (some ⟨wr.heap.size, 0, none⟩) [c] 1 rfl (fun e => by cases e) (At.one wr c) (by simp; omega) (by have := HI.out.2.2.2.size; simp; omega) ?_; intro v1 w1 hown1 hgrow1 hne1; have HQ1 := hid (And.intro hown1 hgrow1); clear hown1 hgrow1 hne1))
      go_ret
      refine ⟨_, rfl, ?_, HT.out _ _ _ HI.out.2.2.1 HQ1.out.2⟩
      rw [← HE.out, List.length_append, S, List.map_append]
      exact HQ1.out.1
    · have hor := or128 m
      have HE := hid (show (pre ++ [UInt8.ofNat (m % 128 + 128)]) ++ M.enc (m / 128) = M.enc n by rw [← HI.out.2.1, M.enc_big h128, List.append_assoc]; rfl)
      generalize UInt8.ofNat (m % 128 + 128) = c at *
      clear hmk
      go_wp2_with (first
        | (at_builtin; refine append_bytes rfl _ _ rfl w.heap.size _ pre.length (S pre) rfl (HI.out.2.2.1.kept (World.grownBy_alloc wr _ none) (own_none _)) (some ⟨wr.heap.size, 0, none⟩) [c] 1 rfl (fun e => by cases e) (At.one wr c) (by simp; omega) (by have := HI.out.2.2.2.size; simp; omega) ?_; intro v1 w1 hown1 hgrow1 hne1; have HQ1 := hid (And.intro hown1 hgrow1); clear hown1 hgrow1 hne1))
      go_roundw
      case rel =>
        refine ⟨m / 128, pre ++ [c], by go_num, by have := HI.out.1; omega, HE.out, ?_, HT.out _ _ _ HI.out.2.2.1 HQ1.out.2⟩
        rw [List.length_append, S, List.map_append]
        exact HQ1.out.1
      case measure => simp [intOf]; omega

set_option maxRecDepth 100000 in
theorem own_base {w : World} {b b' : Nat} {v : Value} {n : Nat} {xs : List Value} (h : w.ownsRow b 5 1 v n xs) (hb : b' ≤ b) : w.ownsRow b' 5 1 v n xs := by
  obtain ⟨q1, q2⟩ := h
  refine ⟨q1, ?_⟩
  rcases q2 with q2 | ⟨g, cap, cur, q2, q3, q4⟩
  · exact .inl q2
  · exact .inr ⟨g, cap, cur, q2, Nat.le_trans hb q3, q4⟩
set_option maxRecDepth 100000 in
theorem Parts.two {w : World} {x y : Part} (h1 : At w x.a x.bs) (h2 : At w y.a y.bs) (n1 : x.a = none → x.cap = 0) (n2 : y.a = none → y.cap = 0) :
    Parts (w.alloc (.cells #[.slice x.a x.bs.length x.cap, .slice y.a y.bs.length y.cap] 30)) w.heap.size [x, y] := by
  intro j z hj
  have hA : Adds w (w.alloc (.cells #[.slice x.a x.bs.length x.cap, .slice y.a y.bs.length y.cap] 30)) := (Touch.refl _ w).alloc _
  rw [cell_of_row _ _ _ _ _ _ (heap_alloc_new w _)]
  match j, hj with
  | 0, hj => obtain rfl : x = z := Option.some.inj hj; exact ⟨rfl, h1.adds hA, n1⟩
  | 1, hj => obtain rfl : y = z := Option.some.inj hj; exact ⟨rfl, h2.adds hA, n2⟩
  | j + 2, hj => simp at hj
set_option maxRecDepth 100000 in
theorem Parts.three {w : World} {x y u : Part} (h1 : At w x.a x.bs) (h2 : At w y.a y.bs) (h3 : At w u.a u.bs) (n1 : x.a = none → x.cap = 0) (n2 : y.a = none → y.cap = 0) (n3 : u.a = none → u.cap = 0) :
    Parts (w.alloc (.cells #[.slice x.a x.bs.length x.cap, .slice y.a y.bs.length y.cap, .slice u.a u.bs.length u.cap] 30)) w.heap.size [x, y, u] := by
  intro j z hj
  have hA : Adds w (w.alloc (.cells #[.slice x.a x.bs.length x.cap, .slice y.a y.bs.length y.cap, .slice u.a u.bs.length u.cap] 30)) := (Touch.refl _ w).alloc _
  rw [cell_of_row _ _ _ _ _ _ (heap_alloc_new w _)]
  match j, hj with
  | 0, hj => obtain rfl : x = z := Option.some.inj hj; exact ⟨rfl, h1.adds hA, n1⟩
  | 1, hj => obtain rfl : y = z := Option.some.inj hj; exact ⟨rfl, h2.adds hA, n2⟩
  | 2, hj => obtain rfl : u = z := Option.some.inj hj; exact ⟨rfl, h3.adds hA, n3⟩
  | j + 3, hj => simp at hj
set_option maxRecDepth 100000 in
theorem concat_two {w : World} (x y : Part) (h1 : At w x.a x.bs) (h2 : At w y.a y.bs) (n1 : x.a = none → x.cap = 0) (n2 : y.a = none → y.cap = 0) (hl : x.bs.length + y.bs.length ≤ 10000000) :
    Calls Try.prog 85 #[.slice (some ⟨w.heap.size, 0, none⟩) 2 2] (w.alloc (.cells #[.slice x.a x.bs.length x.cap, .slice y.a y.bs.length y.cap] 30)) fun e w' => ∃ v, e = .returned v ∧ w'.ownsRow w.heap.size 5 1 v (x.bs ++ y.bs).length (S (x.bs ++ y.bs)) ∧ Adds w w' := by
  have hf : flat [x, y] = x.bs ++ y.bs := by simp [flat]
  refine (concat_any w.heap.size [x, y] _ (by simp) (by rw [hf, List.length_append]; exact hl) (Parts.two h1 h2 n1 n2)).mono ?_
  rintro e w' ⟨v, rfl, h3, h4⟩
  rw [hf] at h3
  exact ⟨v, rfl, own_base h3 (by simp), ((Touch.refl _ w).alloc _).trans h4⟩
set_option maxRecDepth 100000 in
theorem concat_three {w : World} (x y u : Part) (h1 : At w x.a x.bs) (h2 : At w y.a y.bs) (h3 : At w u.a u.bs) (n1 : x.a = none → x.cap = 0) (n2 : y.a = none → y.cap = 0) (n3 : u.a = none → u.cap = 0) (hl : x.bs.length + (y.bs.length + u.bs.length) ≤ 10000000) :
    Calls Try.prog 85 #[.slice (some ⟨w.heap.size, 0, none⟩) 3 3] (w.alloc (.cells #[.slice x.a x.bs.length x.cap, .slice y.a y.bs.length y.cap, .slice u.a u.bs.length u.cap] 30)) fun e w' => ∃ v, e = .returned v ∧ w'.ownsRow w.heap.size 5 1 v (x.bs ++ (y.bs ++ u.bs)).length (S (x.bs ++ (y.bs ++ u.bs))) ∧ Adds w w' := by
  have hf : flat [x, y, u] = x.bs ++ (y.bs ++ u.bs) := by simp [flat]
  refine (concat_any w.heap.size [x, y, u] _ (by simp) (by rw [hf, List.length_append, List.length_append]; exact hl) (Parts.three h1 h2 h3 n1 n2 n3)).mono ?_
  rintro e w' ⟨v, rfl, h3, h4⟩
  rw [hf] at h3
  exact ⟨v, rfl, own_base h3 (by simp), ((Touch.refl _ w).alloc _).trans h4⟩

end Go.Proofs.Ytplppnngmlljnaa

/- PutText, PutFixed, PutFloat. -/
namespace Go.Proofs.Ytplppnngmlljnaa
open Go.RowKit

set_option maxRecDepth 100000 in
/-- A string's bytes, in new memory. -/
theorem str_bytes (bs : List UInt8) (w : World) : ∃ cap w1, (convert 9 30 (.string ⟨bs.toArray⟩)).run Try.prog w = .ok (.slice (some ⟨w.heap.size, 0, none⟩) bs.length cap) w1 ∧ At w1 (some ⟨w.heap.size, 0, none⟩) bs ∧ Adds w w1 := by
  refine ⟨_, _, run_bytes_of_string (P := Try.prog) w 9 30 5 ⟨bs.toArray⟩ Try.underlying9 Try.underlying30 Try.underlying5, ?_, (Touch.refl _ w).drew.alloc _⟩
  intro j c hj
  refine ⟨_, _, rfl, ?_⟩
  have hlt : j < bs.length := (List.getElem?_eq_some_iff.1 hj).1
  have hg : (w.drew.alloc (Obj.cells (bytesRow ⟨bs.toArray⟩ (grownCap w (ByteArray.size ⟨bs.toArray⟩) 0 5)) 5 ((bytesRow ⟨bs.toArray⟩ (grownCap w (ByteArray.size ⟨bs.toArray⟩) 0 5)).size, (bytesRow ⟨bs.toArray⟩ (grownCap w (ByteArray.size ⟨bs.toArray⟩) 0 5)).size + 1))).heap[w.heap.size]? = some _ := heap_alloc_new w.drew _
  rw [cell_of_row _ _ _ _ _ _ hg, Nat.zero_add, bytesRow_at _ _ j (by simpa using hlt)]
  rw [List.getElem?_eq_getElem hlt] at hj
  obtain rfl : bs[j] = c := by simpa using hj
  rfl
set_option maxRecDepth 100000 in
set_option maxHeartbeats 400000 in
theorem putText_any (a : Option Addr) (bs : List UInt8) (cap : Nat) (ts : List UInt8) (w : World) (hl : bs.length ≤ 1000000) (ht : ts.length ≤ 1000000) (hcap : a = none → cap = 0) (hA : At w a bs) : Calls Try.prog 64 #[.slice a bs.length cap, .string ⟨ts.toArray⟩] w (POwn w (bs ++ (M.enc ts.length ++ ts))) := by
  have H := hid (groups_any ts.length (by omega) w)
  have HL := hid (And.intro hl ht)
  have HA := hid (And.intro hA hcap)
  have h10 := M.len_enc10 (show ts.length < 18446744073709551616 by omega)
  clear hA hl hcap
  go_enter Try.func64, Try.ntmps64
  go_wp2_with (first
    | (go_at_call 86; refine H.out.mono ?_; rintro e w1 ⟨v1, rfl, h1, h2⟩; obtain ⟨a1, cap1, rfl, hL1⟩ := Own.lies h1; have HQ := hid (And.intro hL1 h2); obtain ⟨cap2, w2, hcv, hA2, hT2⟩ := str_bytes ts w1; have HY := hid (And.intro hA2 hT2); clear h1 h2 hL1 hA2 hT2)
    | (go_at_call 85; refine (concat_three (w := w2) ⟨a, bs, cap⟩ ⟨a1, M.enc ts.length, cap1⟩ ⟨some ⟨w1.heap.size, 0, none⟩, ts, cap2⟩ ((HA.out.1.adds HQ.out.2).adds HY.out.2) (HQ.out.1.at_.adds HY.out.2) HY.out.1 HA.out.2 HQ.out.1.non (fun e => by cases e) (by have := HL.out.1; have := HL.out.2; simp; omega)).mono ?_; rintro e w3 ⟨v2, rfl, h1, h2⟩; have HZ := hid (And.intro h1 h2); clear h1 h2))
  go_ret
  exact ⟨_, rfl, own_base HZ.out.1 (HQ.out.2.trans HY.out.2).size, (HQ.out.2.trans HY.out.2).trans HZ.out.2⟩
end Go.Proofs.Ytplppnngmlljnaa

/- PutFixed, PutFloat. -/
namespace Go.Proofs.Ytplppnngmlljnaa
open Go.RowKit

namespace M
set_option maxRecDepth 100000 in
theorem fix_head (k : Nat) : ∀ n, fix n (k + 1) = UInt8.ofNat (n / 256 ^ k % 256) :: fix n k := by
  induction k with
  | zero => intro n; simp [fix]
  | succ k ih =>
    intro n
    rw [fix, ih (n / 256), fix, List.cons_append, Nat.div_div_eq_div_mul, ← Nat.pow_succ']
/-- Eight bytes, of which k are laid. -/
def row (n k : Nat) : List UInt8 := List.replicate (8 - k) 0 ++ fix n k
set_option maxRecDepth 100000 in
theorem len_row (n k : Nat) (h : k ≤ 8) : (row n k).length = 8 := by rw [row, List.length_append, List.length_replicate, len_fix]; omega
set_option maxRecDepth 100000 in
theorem row_set (n k : Nat) (h : k < 8) : (row n k).set (7 - k) (UInt8.ofNat (n / 256 ^ k % 256)) = row n (k + 1) := by
  rw [row, row, fix_head, show 8 - k = (7 - k) + 1 by omega, show 8 - (k + 1) = 7 - k by omega, List.replicate_succ', List.append_assoc]
  rw [List.set_append_right _ _ (by simp)]
  simp
end M
set_option maxRecDepth 100000 in
theorem S_set (bs : List UInt8) (j : Nat) (c : UInt8) : (S bs).toArray.setIfInBounds j (.int .u8 (c.toNat : Int)) = (S (bs.set j c)).toArray := by
  rw [List.setIfInBounds_toArray, S, S, List.map_set]
  rfl
set_option maxRecDepth 100000 in
theorem byte_shift (n k : Nat) : (n : Int) / 2 ^ (8 * k) % 256 = ((UInt8.ofNat (n / 256 ^ k % 256)).toNat : Int) := by
  rw [M.ofNat_toNat _ (by omega), show 256 ^ k = 2 ^ (8 * k) by rw [Nat.pow_mul]]
  simp
set_option maxRecDepth 100000 in
theorem M.fix_drop (n q d : Nat) : (M.fix n (q + d)).drop d = M.fix n q := by
  induction d with
  | zero => rfl
  | succ d ih => rw [show q + (d + 1) = (q + d) + 1 by omega, M.fix_head, List.drop_succ_cons]; exact ih
set_option maxRecDepth 100000 in
theorem slice66 (g q : Nat) (hq : q ≤ 8) (w : World) : (Instr.sliceAt 124 (.pointer (some ⟨g, 0, none⟩)) (some (.int .i64 (8 - (q : Int)))) none none).run Try.prog w = .ok (.slice (some ⟨g, if q = 0 then 0 else 8 - q, none⟩) q q) w := by
  obtain ⟨i0, hi, hz0, hz1, hz2⟩ := info5all
  have hl : Try.prog.arrayLen 124 = 8 := by kernel_rfl
  have he : Try.prog.elem 124 = 5 := by kernel_rfl
  have e2 : (8 - (q : Int)).toNat = 8 - q := by omega
  rw [run_sliceAt_array_l (P := Try.prog) w 124 ⟨g, 0, none⟩ (by rw [hl, he]; exact Try.underlying124) .i64 (8 - (q : Int)) (by omega) (by rw [hl]; omega), he, hl, e2]
  simp only [sizeOf, typeInfo, Sem.run_bind, Sem.run_pure, Result.andThen, slicedAt]
  simp [hi, hz1]
  by_cases h0 : q = 0
  · subst h0; simp
  · rw [if_neg (by omega), if_neg h0, show 8 - (8 - q) = q by omega, Addr.add_mid]
    simp
set_option maxRecDepth 100000 in
set_option maxHeartbeats 1000000 in
theorem putFixed_any (a : Option Addr) (bs : List UInt8) (cap n : Nat) (z : Int) (w : World) (hl : bs.length ≤ 1000000) (hcap : a = none → cap = 0) (hA : At w a bs) : Calls Try.prog 65 #[.slice a bs.length cap, .int .u64 (n : Int), .int .i64 z] w (POwn w (bs ++ M.fix n (M.clamp z))) := by
  have HL := hid hl
  have HA := hid (And.intro hA hcap)
  clear hA hl hcap
  go_enter Try.func65, Try.ntmps65
  go_wp2
  go_loopw [9] (fun i wz => ∃ k : Nat, k ≤ 8 ∧ i = .int .i64 (k : Int) ∧ Hid (wz.heap[w.heap.size]? = some (.cells (S (M.row n k)).toArray 124 (0, 0)) ∧ Adds w wz)) (fun i _ => 8 - (intOf i).toNat)
  case atStart => exact ⟨0, by omega, rfl, heap_alloc_new w _, (Touch.refl _ w).alloc _⟩
  case round =>
    obtain ⟨k, hk, rfl, HI⟩ := hrel
    by_cases h8 : k < 8
    · obtain ⟨c, hc⟩ : ∃ c, c = UInt8.ofNat (n / 256 ^ k % 256) := ⟨_, rfl⟩
      have hby := byte_shift n k
      rw [← hc] at hby
      obtain ⟨x, hx⟩ : ∃ x, (M.row n k)[7 - k]? = some x := ⟨_, List.getElem?_eq_getElem (by rw [M.len_row n k hk]; omega)⟩
      have hcell : wr.cell? ⟨w.heap.size, 7 - k, none⟩ = some (.int .u8 (x.toNat : Int)) := by rw [cellOf HI.out.1 (7 - k), List.getElem?_toArray, S_get, hx]; rfl
      have hfr : wr.frozen? ⟨w.heap.size, 7 - k, none⟩ = false := frozen_of_row wr _ _ _ 124 HI.out.1
      have HN := hid (show (wr.setCell ⟨w.heap.size, 7 - k, none⟩ (.int .u8 (c.toNat : Int))).heap[w.heap.size]? = some (.cells (S (M.row n (k + 1))).toArray 124 (0, 0)) by
        rw [heap_setCell_same wr _ (7 - k) _ 124 _ HI.out.1, S_set, hc, M.row_set n k h8])
      clear hc hx
      go_wp2
      go_roundw
      case rel => exact ⟨k + 1, by omega, by go_num, HN.out, HI.out.2.setCell (fun h => absurd h (Nat.lt_irrefl _)) _⟩
      case measure => simp [intOf]; omega
    · obtain rfl : k = 8 := by omega
      have H1 := hid (within_any z wr)
      have hc8 := M.clamp_le z
      generalize hq : M.clamp z = q at *
      have HAt := hid (show At wr (some ⟨w.heap.size, 0, none⟩) (M.fix n 8) by
        intro j c hj
        refine ⟨_, _, rfl, ?_⟩
        rw [Nat.zero_add, cellOf HI.out.1 j, List.getElem?_toArray, S_get]
        rw [show M.row n 8 = M.fix n 8 by simp [M.row], hj]; rfl)
      have HAq := hid (show At wr (some ⟨w.heap.size, if q = 0 then 0 else 8 - q, none⟩) (M.fix n q) by
        by_cases h0 : q = 0
        · subst h0; exact At.nil _ _
        · rw [if_neg h0]
          have h := HAt.out.suf (8 - q)
          rw [Nat.zero_add] at h
          have e := M.fix_drop n q (8 - q)
          rw [show q + (8 - q) = 8 by omega] at e
          rw [e] at h; exact h)
      have hlq := M.len_fix q n
      have hsl := slice66 w.heap.size q hc8 wr
      generalize (if q = 0 then 0 else 8 - q) = oq at *
      have HC := hid (concat_two (w := wr) ⟨a, bs, cap⟩ ⟨some ⟨w.heap.size, oq, none⟩, M.fix n q, q⟩ (HA.out.1.adds HI.out.2) HAq.out HA.out.2 (fun e => by cases e) (by have := HL.out; simp; omega))
      simp only [hlq] at HC
      clear hq hlq
      go_wp2_with (first
        | (go_at_call 77; refine H1.out.mono ?_; rintro e w' ⟨rfl, rfl⟩)
        | (go_at_call 85; refine HC.out.mono ?_; rintro e w2 ⟨v2, rfl, h1, h2⟩; have HZ := hid (And.intro h1 h2); clear h1 h2))
      go_ret
      exact ⟨_, rfl, own_base HZ.out.1 HI.out.2.size, HI.out.2.trans HZ.out.2⟩
end Go.Proofs.Ytplppnngmlljnaa

/- What a reader's calls leave as it was. -/
namespace Go.Proofs.Ytplppnngmlljnaa
open Go.RowKit

/-- A block without bytes. -/
def Cold (w : World) (k : Nat) : Prop := ∀ j c, w.cell? ⟨k, j, none⟩ ≠ some (.int .u8 c)
set_option maxRecDepth 100000 in
theorem At.cold {w w' : World} {T : Nat → Prop} {a : Option Addr} {l : List UInt8} (h : At w a l) (hT : Touch T w w') (hc : ∀ k, T k → Cold w k) : At w' a l := by
  intro j c hj
  obtain ⟨b, o, rfl, hcell⟩ := h j c hj
  refine ⟨b, o, rfl, ?_⟩
  rw [World.cell?_of_block (w := w) (hT.block b (World.block_lt_of_cell? w _ hcell) (fun ht => hc b ht _ _ hcell))]
  exact hcell
theorem Lies.cold {w w' : World} {T : Nat → Prop} {p : Nat} {a : Option Addr} {l : List UInt8} {cap : Nat} (h : Lies w p a l cap) (hT : Touch T w w') (hc : ∀ k, T k → Cold w k) : Lies w' p a l cap :=
  ⟨h.at_.cold hT hc, h.room, h.non, h.low⟩
set_option maxRecDepth 100000 in
theorem cold_three {w : World} {k : Nat} {x : Bool} {y : Int} {a : Option Addr} {n cap : Nat} {t : TypeId} {fr : Nat × Nat} (h : w.heap[k]? = some (.cells #[.bool x, .int .i64 y, .slice a n cap] t fr)) : Cold w k := by
  intro j c
  rw [cellOf h j]
  match j with
  | 0 => simp
  | 1 => simp
  | 2 => simp
  | j + 3 => simp
set_option maxRecDepth 100000 in
theorem cold_two {w : World} {k : Nat} {y : Int} {a : Option Addr} {n cap : Nat} {t : TypeId} {fr : Nat × Nat} (h : w.heap[k]? = some (.cells #[.slice a n cap, .int .i64 y] t fr)) : Cold w k := by
  intro j c
  rw [cellOf h j]
  match j with
  | 0 => simp
  | 1 => simp
  | j + 2 => simp
set_option maxRecDepth 100000 in
theorem RD.cold {w : World} {v : Value} {s : M.St} (h : RD w v s) : ∀ k, Own1 v k → Cold w k := by
  intro k hk
  rcases h with ⟨rfl, _⟩ | ⟨p, rfl, hb, _⟩ | ⟨p, rfl, hR⟩
  · cases hk
  · obtain rfl : p = k := by simpa [Own1] using hk
    exact cold_three hb
  · obtain rfl : p = k := by simpa [Own1] using hk
    obtain ⟨a, cap, hb, _⟩ := hR.box
    exact cold_three hb
set_option maxRecDepth 100000 in
theorem IsS.cold {w : World} {p : Nat} {s : M.St} (h : IsS w p s) : ∀ k, Own1 (.pointer (some ⟨p, 0, none⟩)) k → Cold w k := by
  intro k hk
  obtain rfl : p = k := by simpa [Own1] using hk
  obtain ⟨a, cap, hb, _⟩ := h.box
  exact cold_two hb
set_option maxRecDepth 100000 in
theorem lt_of_heap {w : World} {p : Nat} {o : Obj} (h : w.heap[p]? = some o) : p < w.heap.size := by
  rcases Nat.lt_or_ge p w.heap.size with h1 | h1
  · exact h1
  · rw [Array.getElem?_eq_none h1] at h; cases h
set_option maxRecDepth 100000 in
theorem RD.lt {w : World} {p : Nat} {s : M.St} (h : RD w (.pointer (some ⟨p, 0, none⟩)) s) : p < w.heap.size := by
  rcases h with ⟨e, _⟩ | ⟨q, e, hb, _⟩ | ⟨q, e, hR⟩
  · cases e
  · obtain rfl : p = q := by simpa using e
    exact lt_of_heap hb
  · obtain rfl : p = q := by simpa using e
    obtain ⟨a, cap, hb, _⟩ := hR.box
    exact lt_of_heap hb
set_option maxRecDepth 100000 in
theorem IsS.lt {w : World} {p : Nat} {s : M.St} (h : IsS w p s) : p < w.heap.size := by
  obtain ⟨a, cap, hb, _⟩ := h.box
  exact lt_of_heap hb
set_option maxRecDepth 100000 in
theorem RD.keep {w w' : World} {T : Nat → Prop} {v : Value} {s : M.St} (h : RD w v s) (hT : Touch T w w') (hc : ∀ k, T k → Cold w k) (hn : ∀ k, Own1 v k → ¬ T k) : RD w' v s := by
  rcases h with h | ⟨p, rfl, hb, hs⟩ | ⟨p, rfl, hR⟩
  · exact .inl h
  · exact .inr (.inl ⟨p, rfl, by rw [hT.block p (lt_of_heap hb) (hn p rfl)]; exact hb, hs⟩)
  · obtain ⟨a, cap, hb, hL⟩ := hR.box
    exact .inr (.inr ⟨p, rfl, ⟨⟨a, cap, by rw [hT.block p (lt_of_heap hb) (hn p rfl)]; exact hb, hL.cold hT hc⟩, hR.good, hR.len, hR.err⟩⟩)
set_option maxRecDepth 100000 in
theorem IsS.keep {w w' : World} {T : Nat → Prop} {p : Nat} {s : M.St} (h : IsS w p s) (hT : Touch T w w') (hc : ∀ k, T k → Cold w k) (hn : ¬ T p) : IsS w' p s := by
  obtain ⟨a, cap, hb, hL⟩ := h.box
  exact ⟨⟨a, cap, by rw [hT.block p (lt_of_heap hb) hn]; exact hb, hL.cold hT hc⟩, h.good, h.len, h.err⟩
theorem RD.adds {w w' : World} {v : Value} {s : M.St} (h : RD w v s) (hA : Adds w w') : RD w' v s := h.keep hA (fun _ h => h.elim) (fun _ _ => id)
theorem IsS.adds {w w' : World} {p : Nat} {s : M.St} (h : IsS w p s) (hA : Adds w w') : IsS w' p s := h.keep hA (fun _ h => h.elim) id
/-- Another reader than the one that was called. -/
theorem RD.other {w w' : World} {p q : Nat} {s : M.St} {u : M.St} (h : RD w (.pointer (some ⟨p, 0, none⟩)) s) (hq : RD w (.pointer (some ⟨q, 0, none⟩)) u) (hT : Touch (Own1 (.pointer (some ⟨q, 0, none⟩))) w w') (hne : p ≠ q) : RD w' (.pointer (some ⟨p, 0, none⟩)) s :=
  h.keep hT hq.cold (fun k hk hk2 => hne (by simp only [Own1, Value.pointer.injEq, Option.some.injEq, Addr.mk.injEq] at hk hk2; omega))
/-- A new block was turned alone. -/
theorem Adds.own {w w1 w2 : World} {p : Nat} (h : Adds w w1) (hT : Touch (Own1 (.pointer (some ⟨p, 0, none⟩))) w1 w2) (hp : w.heap.size ≤ p) : Adds w w2 :=
  h.then hT (fun i hi e => by simp only [Own1, Value.pointer.injEq, Option.some.injEq, Addr.mk.injEq] at e; omega)
end Go.Proofs.Ytplppnngmlljnaa

/- The reference's Uint, Int, Text, Fixed and Float. -/
namespace Go.Proofs.Ytplppnngmlljnaa
open Go.RowKit

theorem own_adds {w w' : World} {b : Nat} {v : Value} {n : Nat} {xs : List Value} (h : w.ownsRow b 5 1 v n xs) (hA : Adds w w') : w'.ownsRow b 5 1 v n xs := by
  obtain ⟨q1, q2⟩ := h
  refine ⟨q1, ?_⟩
  rcases q2 with q2 | ⟨g, cap, cur, q2, q3, q4, q5⟩
  · exact .inl q2
  · exact .inr ⟨g, cap, cur, q2, q3, by rw [hA.block g (lt_of_heap q4) id]; exact q4, q5⟩
theorem own_lit (w : World) (c : UInt8) : (w.alloc (.cells #[.int .u8 (c.toNat : Int)] 5)).ownsRow w.heap.size 5 1 (.slice (some ⟨w.heap.size, 0, none⟩) 1 1) 1 (S [c]) :=
  World.ownsRow_lit (base := w.heap.size) (e := 5) (size := 1) w #[.int .u8 (c.toNat : Int)] 1 (Nat.le_refl _) (by decide) rfl

set_option maxRecDepth 100000 in
set_option maxHeartbeats 400000 in
theorem ruint_small (n : Nat) (hn : n < 128) (w : World) : Calls Try.prog 87 #[.int .u64 (n : Int)] w (POwn w (M.enc n)) := by
  obtain ⟨c, hc⟩ : ∃ c : UInt8, c = UInt8.ofNat n := ⟨_, rfl⟩
  obtain rfl : n = c.toNat := by rw [hc, M.ofNat_toNat _ (by omega)]
  have HE := hid (show M.enc c.toNat = [c] by rw [M.enc_small hn, ← hc])
  clear hc
  go_enter Try.func87, Try.ntmps87
  go_wp2
  go_ret
  rw [HE.out]
  exact ⟨_, rfl, own_lit w c, (Touch.refl _ w).alloc _⟩
set_option maxRecDepth 100000 in
set_option maxHeartbeats 400000 in
theorem ruint_big (n : Nat) (hn : ¬ n < 128) (hn2 : n < 18446744073709551616) (w : World) (ih : ∀ w', Calls Try.prog 87 #[.int .u64 ((n / 128 : Nat) : Int)] w' (POwn w' (M.enc (n / 128)))) : Calls Try.prog 87 #[.int .u64 (n : Int)] w (POwn w (M.enc n)) := by
  obtain ⟨c, hc⟩ : ∃ c : UInt8, c = UInt8.ofNat (n % 128 + 128) := ⟨_, rfl⟩
  have HE := hid (show M.enc n = [c] ++ M.enc (n / 128) by rw [M.enc_big hn, ← hc]; rfl)
  have hcv : (n : Int) % 128 + 128 = (c.toNat : Int) := by rw [hc, M.ofNat_toNat _ (by omega)]; omega
  have HI := hid ih
  have h10 := M.len_enc10 (show n / 128 < 18446744073709551616 by omega)
  clear hc ih
  go_enter Try.func87, Try.ntmps87
  go_wp2_with (first
    | (go_at_call 87; refine (HI.out _).mono ?_; rintro e w1 ⟨v1, rfl, h1, h2⟩; obtain ⟨a1, cap1, rfl, hL1⟩ := Own.lies h1; have Q1 := hid (And.intro hL1 h2); clear h1 h2 hL1)
    | (at_builtin; refine append_bytes rfl _ _ rfl w.heap.size (.slice (some ⟨w.heap.size, 0, none⟩) 1 1) 1 (S [c]) rfl (own_adds (own_lit w c) Q1.out.2) a1 (M.enc (n / 128)) cap1 rfl Q1.out.1.non Q1.out.1.at_ (by omega) (by have := Q1.out.2.size; simp at this; omega) ?_; intro v2 w2 hown1 hgrow1 hne1; have Q2 := hid (And.intro hown1 (show Adds w w2 from Touch.grown (((Touch.refl _ w).alloc _).trans Q1.out.2) hgrow1 (fun j hj hlt => by simp [Value.ownBlock] at hj; omega))); clear hown1 hgrow1 hne1))
  go_ret
  rw [HE.out]
  refine ⟨_, rfl, ?_, Q2.out.2⟩
  rw [List.length_append, S, List.map_append]
  exact Q2.out.1
theorem ruintp_any (n : Nat) : ∀ (_ : n < 18446744073709551616) (w : World), Calls Try.prog 87 #[.int .u64 (n : Int)] w (POwn w (M.enc n)) := by
  induction n using Nat.strongRecOn with
  | _ n ih =>
    intro hn w
    by_cases h : n < 128
    · exact ruint_small n h w
    · exact ruint_big n h hn w (fun w' => ih (n / 128) (by omega) (by omega) w')

set_option maxRecDepth 100000 in
set_option maxHeartbeats 400000 in
theorem rtextp_any (ts : List UInt8) (ht : ts.length ≤ 1000000) (w : World) : Calls Try.prog 67 #[.string ⟨ts.toArray⟩] w (POwn w (M.enc ts.length ++ ts)) := by
  have H := hid (ruintp_any ts.length (by omega) w)
  have h10 := M.len_enc10 (show ts.length < 18446744073709551616 by omega)
  go_enter Try.func67, Try.ntmps67
  go_wp2_with (first
    | (go_at_call 87; refine H.out.mono ?_; rintro e w1 ⟨v1, rfl, h1, h2⟩; have Q1 := hid (And.intro h1 h2); obtain ⟨cap2, w2, hcv, hA2, hT2⟩ := str_bytes ts w1; have HY := hid (And.intro hA2 hT2); clear h1 h2 hA2 hT2)
    | (at_builtin; refine append_bytes rfl _ _ rfl w.heap.size _ (M.enc ts.length).length (S (M.enc ts.length)) rfl (own_adds Q1.out.1 HY.out.2) (some ⟨w1.heap.size, 0, none⟩) ts cap2 rfl (fun e => by cases e) HY.out.1 (by omega) (Q1.out.2.trans HY.out.2).size ?_; intro v3 w3 hown1 hgrow1 hne1; have Q3 := hid (And.intro hown1 (show Adds w w3 from Touch.grown (Q1.out.2.trans HY.out.2) hgrow1 (fun j hj hlt => by have := (Q1.out.1.lt j hj).1; omega))); clear hown1 hgrow1 hne1))
  go_ret
  refine ⟨_, rfl, ?_, Q3.out.2⟩
  rw [List.length_append, S, List.map_append]
  exact Q3.out.1
set_option maxRecDepth 100000 in
set_option maxHeartbeats 1000000 in
theorem rfixedp_hi (n : Nat) (hn : n < 18446744073709551616) (z : Int) (hz : 8 < z) (w : World) : Calls Try.prog 68 #[.int .u64 (n : Int), .int .i64 z] w (POwn w (M.fix n 8)) := by
  go_enter Try.func68, Try.ntmps68
  go_wp2
  go_loopw [0, 5, 6] (fun x v i wz => ∃ k : Nat, k ≤ 8 ∧ x = .int .u64 ((n / 256 ^ k : Nat) : Int) ∧ i = .int .i64 (k : Int) ∧ Hid (wz.ownsRow w.heap.size 5 1 v (M.fix n k).length (S (M.fix n k)) ∧ Adds w wz)) (fun _ _ i _ => 8 - (intOf i).toNat)
  case atStart => exact ⟨0, by omega, by simp, rfl, World.ownsRow_nil _ _ _ _, Touch.refl _ _⟩
  case round =>
    obtain ⟨k, hk, rfl, rfl, HI⟩ := hrel
    by_cases hlt : k < 8
    · obtain ⟨c, hc⟩ : ∃ c : UInt8, c = UInt8.ofNat (n / 256 ^ k % 256) := ⟨_, rfl⟩
      have HE := hid (show M.fix n (k + 1) = [c] ++ M.fix n k by rw [M.fix_head, ← hc]; rfl)
      have HD := hid (show n / 256 ^ (k + 1) = n / 256 ^ k / 256 by rw [Nat.div_div_eq_div_mul, Nat.pow_succ])
      have hcv : ((n / 256 ^ k : Nat) : Int) % 256 = (c.toNat : Int) := by rw [hc, M.ofNat_toNat _ (by omega)]; omega
      obtain ⟨a1, cap1, rfl, hL⟩ := Own.lies HI.out.1
      have HL := hid (hL.adds ((Touch.refl _ wr).alloc (.cells #[.int .u8 (c.toNat : Int)] 5)))
      have hkl := M.len_fix k n
      have hmlt : n / 256 ^ k < 18446744073709551616 := Nat.lt_of_le_of_lt (Nat.div_le_self _ _) hn
      clear hc hL
      generalize n / 256 ^ k = m at *
      go_wp2_with (first
        | (at_builtin; refine append_bytes rfl _ _ rfl w.heap.size (.slice (some ⟨wr.heap.size, 0, none⟩) 1 1) 1 (S [c]) rfl (own_base (own_lit wr c) HI.out.2.size) a1 (M.fix n k) cap1 (by rw [hkl]; rfl) HL.out.non HL.out.at_ (by omega) (by have := HI.out.2.size; simp; omega) ?_; intro v2 w2 hown1 hgrow1 hne1; have Q2 := hid (And.intro hown1 (show Adds w w2 from Touch.grown (HI.out.2.alloc _) hgrow1 (fun j hj hlt => by simp [Value.ownBlock] at hj; have := HI.out.2.size; omega))); clear hown1 hgrow1 hne1))
      go_roundw
      case rel =>
        refine ⟨k + 1, by omega, by rw [HD.out]; first | rfl | simp, by go_num, ?_, Q2.out.2⟩
        rw [HE.out, List.length_append, S, List.map_append]
        exact Q2.out.1
      case measure => simp [intOf]; omega
    · obtain rfl : k = 8 := by omega
      go_wp2
      go_ret
      exact ⟨_, rfl, HI.out.1, HI.out.2⟩
set_option maxRecDepth 100000 in
set_option maxHeartbeats 1000000 in
theorem rfixedp_mid (n q : Nat) (hn : n < 18446744073709551616) (hq : q ≤ 8) (w : World) : Calls Try.prog 68 #[.int .u64 (n : Int), .int .i64 (q : Int)] w (POwn w (M.fix n q)) := by
  go_enter Try.func68, Try.ntmps68
  go_wp2
  go_loopw [0, 5, 6] (fun x v i wz => ∃ k : Nat, k ≤ q ∧ x = .int .u64 ((n / 256 ^ k : Nat) : Int) ∧ i = .int .i64 (k : Int) ∧ Hid (wz.ownsRow w.heap.size 5 1 v (M.fix n k).length (S (M.fix n k)) ∧ Adds w wz)) (fun _ _ i _ => q - (intOf i).toNat)
  case atStart => exact ⟨0, by omega, by simp, rfl, World.ownsRow_nil _ _ _ _, Touch.refl _ _⟩
  case round =>
    obtain ⟨k, hk, rfl, rfl, HI⟩ := hrel
    by_cases hlt : k < q
    · obtain ⟨c, hc⟩ : ∃ c : UInt8, c = UInt8.ofNat (n / 256 ^ k % 256) := ⟨_, rfl⟩
      have HE := hid (show M.fix n (k + 1) = [c] ++ M.fix n k by rw [M.fix_head, ← hc]; rfl)
      have HD := hid (show n / 256 ^ (k + 1) = n / 256 ^ k / 256 by rw [Nat.div_div_eq_div_mul, Nat.pow_succ])
      have hcv : ((n / 256 ^ k : Nat) : Int) % 256 = (c.toNat : Int) := by rw [hc, M.ofNat_toNat _ (by omega)]; omega
      obtain ⟨a1, cap1, rfl, hL⟩ := Own.lies HI.out.1
      have HL := hid (hL.adds ((Touch.refl _ wr).alloc (.cells #[.int .u8 (c.toNat : Int)] 5)))
      have hkl := M.len_fix k n
      have hmlt : n / 256 ^ k < 18446744073709551616 := Nat.lt_of_le_of_lt (Nat.div_le_self _ _) hn
      clear hc hL
      generalize n / 256 ^ k = m at *
      go_wp2_with (first
        | (at_builtin; refine append_bytes rfl _ _ rfl w.heap.size (.slice (some ⟨wr.heap.size, 0, none⟩) 1 1) 1 (S [c]) rfl (own_base (own_lit wr c) HI.out.2.size) a1 (M.fix n k) cap1 (by rw [hkl]; rfl) HL.out.non HL.out.at_ (by omega) (by have := HI.out.2.size; simp; omega) ?_; intro v2 w2 hown1 hgrow1 hne1; have Q2 := hid (And.intro hown1 (show Adds w w2 from Touch.grown (HI.out.2.alloc _) hgrow1 (fun j hj hlt => by simp [Value.ownBlock] at hj; have := HI.out.2.size; omega))); clear hown1 hgrow1 hne1))
      go_roundw
      case rel =>
        refine ⟨k + 1, by omega, by rw [HD.out]; first | rfl | simp, by go_num, ?_, Q2.out.2⟩
        rw [HE.out, List.length_append, S, List.map_append]
        exact Q2.out.1
      case measure => simp [intOf]; omega
    · obtain rfl : k = q := by omega
      go_wp2
      go_ret
      exact ⟨_, rfl, HI.out.1, HI.out.2⟩
set_option maxRecDepth 100000 in
set_option maxHeartbeats 1000000 in
theorem rfixedp_lo (n : Nat) (z : Int) (hz : z < 0) (w : World) : Calls Try.prog 68 #[.int .u64 (n : Int), .int .i64 z] w (POwn w (M.fix n 0)) := by
  go_enter Try.func68, Try.ntmps68
  go_wp2
  go_loopw [5, 6] (fun v i wz => v = .slice none 0 0 ∧ i = .int .i64 0 ∧ wz = w) (fun _ _ _ => 0)
  case atStart => exact ⟨rfl, rfl, rfl⟩
  case round =>
    obtain ⟨rfl, rfl, rfl⟩ := hrel
    go_wp2
    go_ret
    exact ⟨_, rfl, World.ownsRow_nil _ _ _ _, Touch.refl _ _⟩
theorem rfixedp_any (n : Nat) (hn : n < 18446744073709551616) (z : Int) (w : World) : Calls Try.prog 68 #[.int .u64 (n : Int), .int .i64 z] w (POwn w (M.fix n (M.clamp z))) := by
  by_cases h0 : z < 0
  · rw [M.clamp, if_pos h0]; exact rfixedp_lo n z h0 w
  · by_cases h8 : 8 < z
    · rw [M.clamp, if_neg h0, if_pos h8]; exact rfixedp_hi n hn z h8 w
    · rw [M.clamp, if_neg h0, if_neg h8]
      have h := rfixedp_mid n z.toNat hn (by omega) w
      rw [Int.toNat_of_nonneg (by omega)] at h
      exact h
end Go.Proofs.Ytplppnngmlljnaa
