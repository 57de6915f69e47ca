/- Texts put together: Reads, Concat, Put, Put2, Put3, Keep, RPut. -/
import Derived.Test.YtokbiekdompaoaaDoorQ02
/- Int, Text and Float, of a reader and of the reference's. -/
namespace Go.Proofs.YtokbiekdompaoaaDoor
open Go.RowKit

theorem xor_nought (x : Int) : bits .xor .i64 x 0 = IntKind.i64.wrap x := by
  show IntKind.i64.wrap ((BitVec.ofInt 64 x ^^^ BitVec.ofInt 64 0).toNat : Int) = _
  rw [show BitVec.ofInt 64 0 = 0#64 from rfl, BitVec.xor_zero, BitVec.toNat_ofInt, IntKind.wrap_i64, IntKind.wrap_i64]
  omega
theorem xor_ones (x : Int) : bits .xor .i64 x (-1) = IntKind.i64.wrap (-x - 1) := by
  show IntKind.i64.wrap ((BitVec.ofInt 64 x ^^^ BitVec.ofInt 64 (-1)).toNat : Int) = _
  rw [show BitVec.ofInt 64 (-1) = BitVec.allOnes 64 from rfl, BitVec.xor_allOnes, BitVec.toNat_not, BitVec.toNat_ofInt, IntKind.wrap_i64, IntKind.wrap_i64]
  omega
theorem and_one (n : Nat) (h : n < 18446744073709551616) : bits .and .u64 (n : Int) 1 = ((n % 2 : Nat) : Int) := by
  rw [show (1 : Int) = ((1 : Nat) : Int) from rfl, bits_and_u64_nat _ _ h (by omega), show (1 : Nat) = 2 ^ 1 - 1 from rfl, Nat.and_two_pow_sub_one_eq_mod]
theorem unzig_bits (n : Nat) (h : n < 18446744073709551616) : bits .xor .i64 ((n : Int) / 2) (wrap64 (-wrap64 (bits .and .u64 (n : Int) 1))) = M.unzig n := by
  rw [and_one n h]
  by_cases h2 : n % 2 = 1
  · rw [M.unzig, if_pos h2, h2, show wrap64 (-wrap64 ((1 : Nat) : Int)) = -1 by simp [wrap64], xor_ones, IntKind.wrap_i64]
    omega
  · rw [M.unzig, if_neg h2, show n % 2 = 0 by omega, show wrap64 (-wrap64 ((0 : Nat) : Int)) = 0 by simp [wrap64], xor_nought, IntKind.wrap_i64]
    omega

theorem refuse_any {v : Value} {s : M.St} {w : World} (e : Nat) (h : RD w v s) (h0 : s.e = 0) (he2 : e ≤ 100) : Calls Tryd.prog 95 #[v, .int .i64 (e : Int)] w (PR w v (.tuple #[]) ⟨e, []⟩) := by
  obtain ⟨p, rfl, hR⟩ := h.made h0
  obtain ⟨a, cap, hb, hL⟩ := hR.box
  refine (refuse_box p _ _ _ (e : Int) w hb).mono ?_
  rintro x w' ⟨rfl, hw⟩
  obtain ⟨h3, h4⟩ := hR.set (e := e) (l := []) hw (Lies.nil w p) (fun _ => rfl) (by simp) he2
  exact ⟨rfl, .inr (.inr ⟨p, rfl, h3⟩), h4⟩
theorem fixedR_bad {z : Int} {s : M.St} (h : M.canon (M.fixedR z s).1 ≠ (M.fixedR z s).1) : (M.fixedR z s).2.e = 0 := by
  unfold M.fixedR at h ⊢
  unfold M.takeR at h ⊢
  by_cases h1 : s.e ≠ 0
  · rw [if_pos h1] at h; exact absurd M.canon_zero h
  · rw [if_neg h1] at h ⊢
    by_cases h2 : s.l.length < M.clamp z
    · rw [if_pos h2] at h; exact absurd M.canon_zero h
    · rw [if_neg h2]
end Go.Proofs.YtokbiekdompaoaaDoor

/- Clone, Read; slices of bytes joined in new memory. -/
namespace Go.Proofs.YtokbiekdompaoaaDoor
open Go.RowKit

theorem Own.lies {w : World} {base : Nat} {v : Value} {bs : List UInt8} (h : w.ownsRow base 5 1 v bs.length (S bs)) : ∃ a cap, v = .slice a bs.length cap ∧ Lies w w.heap.size a bs cap := by
  rcases h.2 with ⟨rfl, e⟩ | ⟨g, cap, cur, rfl, hb, hg, hc, h2, h3, h4⟩
  · obtain rfl : bs = [] := List.eq_nil_of_length_eq_zero e
    exact ⟨none, 0, rfl, Lies.nil _ _⟩
  · refine ⟨_, cap, rfl, At.own h, hc, fun e => (by cases e), fun ad e => ?_⟩
    obtain rfl : (⟨g, 0, none⟩ : Addr) = ad := by simpa using e
    exact ⟨rfl, by
      rcases Nat.lt_or_ge g w.heap.size with h | h
      · exact h
      · rw [Array.getElem?_eq_none h] at hg; cases hg⟩

/-- Bytes in new memory. -/
def POwn (w : World) (bs : List UInt8) (e : Ending) (w' : World) : Prop := ∃ v, e = .returned v ∧ w'.ownsRow w.heap.size 5 1 v bs.length (S bs) ∧ Adds w w'

set_option maxHeartbeats 400000 in
theorem clone_nil (w : World) : Calls Tryd.prog 56 #[.slice none 0 0] w fun e w' => e = .returned (.slice none 0 0) ∧ w' = w := by
  have he := Lib.run_eql_slice_nil (P := Tryd.prog) w 55 5 none 0 0 0 0 Tryd.underlying55
  go_enter Tryd.func56, Tryd.ntmps56
  go_wp2
  go_ret
  exact ⟨rfl, rfl⟩
set_option maxHeartbeats 400000 in
theorem clone_some (ad : Addr) (bs : List UInt8) (cap : Nat) (w : World) (hl : bs.length ≤ 1000000) (hA : At w (some ad) bs) :
    Calls Tryd.prog 56 #[.slice (some ad) bs.length cap] w (POwn w bs) := by
  have HA := hid (hA.adds ((Touch.refl _ w).alloc (.cells #[] 5)))
  have HO := hid (World.ownsRow_lit (base := w.heap.size) (e := 5) (size := 1) w #[] 0 (Nat.le_refl _) (by decide) rfl)
  have HL := hid hl
  have he := Lib.run_eql_slice_nil (P := Tryd.prog) w 55 5 (some ad) bs.length cap 0 0 Tryd.underlying55
  clear hA hl
  go_enter Tryd.func56, Tryd.ntmps56
  go_wp2_with (first
    | (at_builtin; refine append_bytes rfl _ _ rfl w.heap.size (.slice (some ⟨w.heap.size, 0, none⟩) 0 0) 0 [] rfl HO.out (some ad) bs cap rfl (fun e => by cases e) HA.out (by have := HL.out; omega) (by simp) ?_; intro v1 w1 hown1 hgrow1 hne1; have HQ := hid (And.intro hown1 (show Adds w w1 from Touch.grown ((Touch.refl _ w).alloc _) hgrow1 (fun k hk hlt => by simp [Value.ownBlock] at hk; omega))); clear hown1 hgrow1 hne1))
  go_ret
  exact ⟨_, rfl, by have h := HQ.out.1; rw [Nat.zero_add, List.nil_append] at h; exact h, HQ.out.2⟩
/-- Bytes of one's own. -/
def PClone (w : World) (bs : List UInt8) (e : Ending) (w' : World) : Prop := ∃ a cap, e = .returned (.slice a bs.length cap) ∧ Lies w' w'.heap.size a bs cap ∧ Adds w w'
theorem clone_any (a : Option Addr) (bs : List UInt8) (cap : Nat) (w : World) (hl : bs.length ≤ 1000000) (hcap : a = none → cap = 0) (hA : At w a bs) : Calls Tryd.prog 56 #[.slice a bs.length cap] w (PClone w bs) := by
  cases a with
  | none =>
    obtain rfl := hcap rfl
    obtain rfl : bs = [] := by
      cases bs with
      | nil => rfl
      | cons c bs => obtain ⟨b, o', e, _⟩ := hA 0 c rfl; cases e
    refine (clone_nil w).mono ?_
    rintro e w' ⟨rfl, rfl⟩
    exact ⟨none, 0, rfl, Lies.nil _ _, Touch.refl _ _⟩
  | some ad =>
    refine (clone_some ad bs cap w hl hA).mono ?_
    rintro e w' ⟨v, rfl, h1, h2⟩
    obtain ⟨a, cap, rfl, h3⟩ := Own.lies h1
    exact ⟨a, cap, rfl, h3, h2⟩
/-- What Read makes. -/
def PRead (w : World) (bs : List UInt8) (e : Ending) (w' : World) : Prop := ∃ p, e = .returned (.pointer (some ⟨p, 0, none⟩)) ∧ w.heap.size ≤ p ∧ RD w' (.pointer (some ⟨p, 0, none⟩)) ⟨0, bs⟩ ∧ Adds w w'
set_option maxHeartbeats 400000 in
theorem read_any (a : Option Addr) (bs : List UInt8) (cap : Nat) (w : World) (hl : bs.length ≤ 1000000) (hcap : a = none → cap = 0) (hA : At w a bs) : Calls Tryd.prog 65 #[.slice a bs.length cap] w (PRead w bs) := by
  have H := hid (clone_any a bs cap w hl hcap hA)
  have HL := hid hl
  clear hcap hA hl
  go_enter Tryd.func65, Tryd.ntmps65
  go_wp2_with (first | (go_at_call 56; refine H.out.mono ?_; rintro e w1 ⟨a1, cap1, rfl, h1, h2⟩; have HQ := hid (And.intro h1 h2); clear h1 h2))
  go_ret
  have hA : Adds w (w1.alloc (.cells #[.bool true, .int .i64 0, .slice a1 bs.length cap1] 120)) := HQ.out.2.alloc _
  refine ⟨w1.heap.size, rfl, HQ.out.2.size, .inr (.inr ⟨_, rfl, ⟨⟨a1, cap1, heap_alloc_new w1 _, ?_⟩, fun h => absurd rfl h, HL.out, by simp⟩⟩), hA⟩
  exact HQ.out.1.adds ((Touch.refl _ w1).alloc _)

theorem zeros_size (n : Nat) : (Builtin.zeroCells #[Value.int .u8 0] n).size = n := by simp [Builtin.zeroCells]
set_option maxHeartbeats 400000 in
theorem grow_none (w : World) : Calls Tryd.prog 92 #[.slice none 0 0, .int .i64 0] w fun e w' => e = .returned (.slice none 0 0) ∧ w' = w := by
  go_enter Tryd.func92, Tryd.ntmps92
  go_wp2
  go_ret
  exact ⟨rfl, rfl⟩
set_option maxHeartbeats 400000 in
theorem grow_some (n : Nat) (hn : 0 < n) (hn2 : n ≤ 10000000) (w : World) : Calls Tryd.prog 92 #[.slice none 0 0, .int .i64 (n : Int)] w (POwn w []) := by
  obtain ⟨i0, hi, hz0, hz1, hz2⟩ := info5all
  have hr := hid (fun ty => Lib.run_append_nil_zeros (P := Tryd.prog) w 55 3 ty 5 i0 (.int .u8 0) .i64 .i64 Tryd.underlying55 Tryd.underlying3 hi hz0 n hn (by omega) (by omega) (by rw [hz2]; omega))
  clear hi hz0 hz1 hz2
  have hn' : (0 : Int) < (n : Int) := by omega
  go_enter Tryd.func92, Tryd.ntmps92
  go_wp2_with (first | (at_builtin; refine Lib.wpList_append_run _ rfl _ _ _ _ rfl _ _ rfl rfl _ _ (hr.out _) ?_))
  go_ret
  refine ⟨.slice (some ⟨w.heap.size, 0, none⟩) 0 (grownCap w n 0 5), rfl, ?_, (Touch.refl _ w).drew.alloc _⟩
  refine World.ownsRow_made (base := w.heap.size) w.drew _ _ (Nat.le_refl _) (grownCap_le_maxLen w n 0 5 (by unfold maxLen; omega)) ?_
  rw [Array.size_append, zeros_size, zeros_size]
  have := grownCap_ge w n 0 5
  omega
theorem grow_any (n : Nat) (hn : n ≤ 10000000) (w : World) : Calls Tryd.prog 92 #[.slice none 0 0, .int .i64 (n : Int)] w (POwn w []) := by
  rcases Nat.eq_zero_or_pos n with rfl | h0
  · refine (grow_none w).mono ?_
    rintro e w' ⟨rfl, rfl⟩
    exact ⟨_, rfl, World.ownsRow_nil _ _ _ _, Touch.refl _ _⟩
  · exact grow_some n h0 hn w

/-- A slice: where it lies, its bytes, its room. -/
structure Part where
  a : Option Addr
  bs : List UInt8
  cap : Nat
def flat (L : List Part) : List UInt8 := (L.map (·.bs)).flatten
theorem flat_next {L : List Part} {k : Nat} {x : Part} (h : L[k]? = some x) : flat (L.take (k + 1)) = flat (L.take k) ++ x.bs := by
  unfold flat
  rw [List.take_add_one, h]; simp
theorem flat_len (L : List Part) (k : Nat) : (flat (L.take k)).length ≤ (flat L).length := by
  have : flat L = flat (L.take k) ++ flat (L.drop k) := by
    unfold flat
    rw [← List.flatten_append, ← List.map_append, List.take_append_drop]
  rw [this, List.length_append]; omega
/-- Slices that lie in a row. -/
def Parts (w : World) (g : Nat) (L : List Part) : Prop := ∀ j x, L[j]? = some x → w.cell? ⟨g, j, none⟩ = some (.slice x.a x.bs.length x.cap) ∧ At w x.a x.bs ∧ (x.a = none → x.cap = 0)
theorem Parts.adds {w w' : World} {g : Nat} {L : List Part} (h : Parts w g L) (hA : Adds w w') : Parts w' g L := by
  intro j x hj
  obtain ⟨h1, h2, h3⟩ := h j x hj
  exact ⟨by rw [World.cell?_of_block (w := w) (hA.block g (World.block_lt_of_cell? w _ h1) id)]; exact h1, h2.adds hA, h3⟩
set_option maxRecDepth 100000 in
set_option maxHeartbeats 1000000 in
theorem concat_any (g : Nat) (L : List Part) (w : World) (hL : L.length ≤ 1000) (hf : (flat L).length ≤ 10000000) (hP : Parts w g L) : Calls Tryd.prog 71 #[.slice (some ⟨g, 0, none⟩) L.length L.length] w (POwn w (flat L)) := by
  have HP := hid hP
  have HG := hid (grow_any (flat L).length hf w)
  clear hP
  go_enter Tryd.func71, Tryd.ntmps71
  go_wp2
  go_loopw [3, 11] (fun x i wr => ∃ k : Nat, k ≤ L.length ∧ x = .int .i64 ((flat (L.take k)).length : Int) ∧ i = .int .i64 (k : Int) ∧ wr = w) (fun _ i _ => L.length - (intOf i).toNat)
  case atStart => exact ⟨0, by omega, rfl, rfl, rfl⟩
  case round =>
    obtain ⟨k, hk, rfl, rfl, hw⟩ := hrel
    obtain rfl := hw.symm
    by_cases hlt : k < L.length
    · obtain ⟨x, hx⟩ : ∃ x, L[k]? = some x := ⟨L[k], List.getElem?_eq_getElem hlt⟩
      obtain ⟨hcell, _, _⟩ := HP.out k x hx
      have hn := flat_len L (k + 1)
      have HN := hid (show (flat (L.take (k + 1))).length = (flat (L.take k)).length + x.bs.length by rw [flat_next hx, List.length_append])
      rw [HN.out] at hn
      clear hx
      generalize (flat (L.take k)).length = y at *
      go_wp2
      go_roundw
      case rel => exact ⟨k + 1, by omega, by rw [HN.out]; simp, by go_num, by first | rfl | trivial⟩
      case measure => simp [intOf]; omega
    · obtain rfl : k = L.length := by omega
      rw [List.take_length]
      go_wp2_with (first | (go_at_call 92; refine HG.out.mono ?_; rintro e w1 ⟨v0, rfl, h1, h2⟩; have HQ := hid (And.intro h1 h2); clear h1 h2))
      go_loopw [6, 27] (fun v i wz => ∃ k : Nat, k ≤ L.length ∧ i = .int .i64 (k : Int) ∧ Hid (wz.ownsRow w.heap.size 5 1 v (flat (L.take k)).length (S (flat (L.take k))) ∧ Adds w wz)) (fun _ i _ => L.length - (intOf i).toNat)
      case atStart => exact ⟨0, by omega, rfl, HQ.out.1, HQ.out.2⟩
      case round =>
        obtain ⟨k, hk, rfl, HI⟩ := hrel
        by_cases hlt : k < L.length
        · obtain ⟨x, hx⟩ : ∃ x, L[k]? = some x := ⟨L[k], List.getElem?_eq_getElem hlt⟩
          obtain ⟨hcell, hAt, hno⟩ := (HP.out.adds HI.out.2) k x hx
          have HN := hid (flat_next hx)
          have hn := flat_len L (k + 1)
          rw [HN.out, List.length_append] at hn
          have HA := hid (And.intro hAt (And.intro hno hn))
          clear hx hAt hno hn
          go_wp2_with (first
            | (at_builtin; refine append_bytes rfl _ _ rfl w.heap.size _ (flat (L.take k)).length (S (flat (L.take k))) rfl HI.out.1 x.a x.bs x.cap rfl HA.out.2.1 HA.out.1 (by have := HA.out.2.2; omega) HI.out.2.size ?_; intro v1 w1 hown1 hgrow1 hne1; have HQ1 := hid (And.intro hown1 hgrow1); clear hown1 hgrow1 hne1))
          go_roundw
          case rel =>
            refine ⟨k + 1, by omega, by go_num, ?_, ?_⟩
            · have h := HQ1.out.1
              rw [HN.out, List.length_append]
              rw [S, List.map_append]
              exact h
            · exact Touch.grown HI.out.2 HQ1.out.2 (fun j hj hlt => by have := (HI.out.1.lt j hj).1; omega)
          case measure => simp [intOf]; omega
        · obtain rfl : k = L.length := by omega
          go_wp2
          go_ret
          have h := HI.out.1
          rw [List.take_length] at h
          exact ⟨_, rfl, h, HI.out.2⟩
end Go.Proofs.YtokbiekdompaoaaDoor

/- Numbers as bytes: groups, PutUint, PutInt, PutText, PutFixed, PutFloat. -/
namespace Go.Proofs.YtokbiekdompaoaaDoor
open Go.RowKit

set_option maxRecDepth 100000 in
theorem make10 (w : World) : (Instr.makeSlice 55 (.int .i64 0) (.int .i64 10)).run Tryd.prog w = .ok (.slice (some ⟨w.heap.size, 0, none⟩) 0 10) (w.alloc (.cells (madeCells #[.int .u8 0] 10) 5)) := by
  obtain ⟨i0, hi, hz0, hz1, hz2⟩ := info5all
  have := run_make (P := Tryd.prog) w 55 5 i0 (.int .u8 0) Tryd.underlying55 hi hz0 .i64 .i64 0 10 (by decide) (by omega) (by rw [hz2]; omega) (by omega)
  rw [this, hz1]
  rfl
set_option maxRecDepth 100000 in
theorem At.one (w : World) (c : UInt8) : At (w.alloc (.cells #[.int .u8 (c.toNat : Int)] 5)) (some ⟨w.heap.size, 0, none⟩) [c] := by
  intro j x hj
  refine ⟨_, _, rfl, ?_⟩
  rw [cell_of_row _ _ _ _ _ _ (heap_alloc_new w _)]
  match j, hj with
  | 0, hj => obtain rfl : c = x := Option.some.inj hj; rfl
  | j + 1, hj => simp at hj
set_option maxRecDepth 100000 in
theorem or128 (m : Nat) : bits .or .u8 ((m : Int) % 256) 128 = ((UInt8.ofNat (m % 128 + 128)).toNat : Int) := by
  rw [M.ofNat_toNat _ (by omega), show (m : Int) % 256 = ((m % 256 : Nat) : Int) by omega, show (128 : Int) = ((128 : Nat) : Int) from rfl, u8_or_nat _ _ (by omega) (by omega)]
  congr 1
  have h1 : m % 256 = m % 128 + m / 128 % 2 * 2 ^ 7 := by omega
  have h2 : m % 128 ||| m / 128 % 2 * 2 ^ 7 = m % 128 + m / 128 % 2 * 2 ^ 7 := or_add _ _ 7 (by omega)
  have h3 : m % 128 ||| 128 = m % 128 + 128 := by have := or_add (m % 128) 1 7 (by omega); simpa using this
  rw [h1, ← h2, Nat.or_assoc]
  rcases Nat.mod_two_eq_zero_or_one (m / 128) with h | h
  · rw [h]; simpa using h3
  · rw [h]; simpa using h3

set_option maxRecDepth 100000 in
theorem own_base {w : World} {b b' : Nat} {v : Value} {n : Nat} {xs : List Value} (h : w.ownsRow b 5 1 v n xs) (hb : b' ≤ b) : w.ownsRow b' 5 1 v n xs := by
  obtain ⟨q1, q2⟩ := h
  refine ⟨q1, ?_⟩
  rcases q2 with q2 | ⟨g, cap, cur, q2, q3, q4⟩
  · exact .inl q2
  · exact .inr ⟨g, cap, cur, q2, Nat.le_trans hb q3, q4⟩
set_option maxRecDepth 100000 in
theorem Parts.two {w : World} {x y : Part} (h1 : At w x.a x.bs) (h2 : At w y.a y.bs) (n1 : x.a = none → x.cap = 0) (n2 : y.a = none → y.cap = 0) :
    Parts (w.alloc (.cells #[.slice x.a x.bs.length x.cap, .slice y.a y.bs.length y.cap] 55)) w.heap.size [x, y] := by
  intro j z hj
  have hA : Adds w (w.alloc (.cells #[.slice x.a x.bs.length x.cap, .slice y.a y.bs.length y.cap] 55)) := (Touch.refl _ w).alloc _
  rw [cell_of_row _ _ _ _ _ _ (heap_alloc_new w _)]
  match j, hj with
  | 0, hj => obtain rfl : x = z := Option.some.inj hj; exact ⟨rfl, h1.adds hA, n1⟩
  | 1, hj => obtain rfl : y = z := Option.some.inj hj; exact ⟨rfl, h2.adds hA, n2⟩
  | j + 2, hj => simp at hj
set_option maxRecDepth 100000 in
theorem Parts.three {w : World} {x y u : Part} (h1 : At w x.a x.bs) (h2 : At w y.a y.bs) (h3 : At w u.a u.bs) (n1 : x.a = none → x.cap = 0) (n2 : y.a = none → y.cap = 0) (n3 : u.a = none → u.cap = 0) :
    Parts (w.alloc (.cells #[.slice x.a x.bs.length x.cap, .slice y.a y.bs.length y.cap, .slice u.a u.bs.length u.cap] 55)) w.heap.size [x, y, u] := by
  intro j z hj
  have hA : Adds w (w.alloc (.cells #[.slice x.a x.bs.length x.cap, .slice y.a y.bs.length y.cap, .slice u.a u.bs.length u.cap] 55)) := (Touch.refl _ w).alloc _
  rw [cell_of_row _ _ _ _ _ _ (heap_alloc_new w _)]
  match j, hj with
  | 0, hj => obtain rfl : x = z := Option.some.inj hj; exact ⟨rfl, h1.adds hA, n1⟩
  | 1, hj => obtain rfl : y = z := Option.some.inj hj; exact ⟨rfl, h2.adds hA, n2⟩
  | 2, hj => obtain rfl : u = z := Option.some.inj hj; exact ⟨rfl, h3.adds hA, n3⟩
  | j + 3, hj => simp at hj
set_option maxRecDepth 100000 in
theorem concat_two {w : World} (x y : Part) (h1 : At w x.a x.bs) (h2 : At w y.a y.bs) (n1 : x.a = none → x.cap = 0) (n2 : y.a = none → y.cap = 0) (hl : x.bs.length + y.bs.length ≤ 10000000) :
    Calls Tryd.prog 71 #[.slice (some ⟨w.heap.size, 0, none⟩) 2 2] (w.alloc (.cells #[.slice x.a x.bs.length x.cap, .slice y.a y.bs.length y.cap] 55)) fun e w' => ∃ v, e = .returned v ∧ w'.ownsRow w.heap.size 5 1 v (x.bs ++ y.bs).length (S (x.bs ++ y.bs)) ∧ Adds w w' := by
  have hf : flat [x, y] = x.bs ++ y.bs := by simp [flat]
  refine (concat_any w.heap.size [x, y] _ (by simp) (by rw [hf, List.length_append]; exact hl) (Parts.two h1 h2 n1 n2)).mono ?_
  rintro e w' ⟨v, rfl, h3, h4⟩
  rw [hf] at h3
  exact ⟨v, rfl, own_base h3 (by simp), ((Touch.refl _ w).alloc _).trans h4⟩
set_option maxRecDepth 100000 in
theorem concat_three {w : World} (x y u : Part) (h1 : At w x.a x.bs) (h2 : At w y.a y.bs) (h3 : At w u.a u.bs) (n1 : x.a = none → x.cap = 0) (n2 : y.a = none → y.cap = 0) (n3 : u.a = none → u.cap = 0) (hl : x.bs.length + (y.bs.length + u.bs.length) ≤ 10000000) :
    Calls Tryd.prog 71 #[.slice (some ⟨w.heap.size, 0, none⟩) 3 3] (w.alloc (.cells #[.slice x.a x.bs.length x.cap, .slice y.a y.bs.length y.cap, .slice u.a u.bs.length u.cap] 55)) fun e w' => ∃ v, e = .returned v ∧ w'.ownsRow w.heap.size 5 1 v (x.bs ++ (y.bs ++ u.bs)).length (S (x.bs ++ (y.bs ++ u.bs))) ∧ Adds w w' := by
  have hf : flat [x, y, u] = x.bs ++ (y.bs ++ u.bs) := by simp [flat]
  refine (concat_any w.heap.size [x, y, u] _ (by simp) (by rw [hf, List.length_append, List.length_append]; exact hl) (Parts.three h1 h2 h3 n1 n2 n3)).mono ?_
  rintro e w' ⟨v, rfl, h3, h4⟩
  rw [hf] at h3
  exact ⟨v, rfl, own_base h3 (by simp), ((Touch.refl _ w).alloc _).trans h4⟩

set_option maxRecDepth 100000 in
theorem zig_bits (z : Int) (h0 : -9223372036854775808 ≤ z) (h1 : z ≤ 9223372036854775807) : IntKind.u64.wrap (bits .xor .i64 (wrap64 (z * 2)) (z / 9223372036854775808)) = (M.zig z : Int) := by
  by_cases h : z < 0
  · rw [show z / 9223372036854775808 = -1 by omega, xor_ones, IntKind.wrap_i64, IntKind.wrap_u64, M.zig, if_pos h, wrap64]
    omega
  · rw [show z / 9223372036854775808 = 0 by omega, xor_nought, IntKind.wrap_i64, IntKind.wrap_u64, M.zig, if_neg h, wrap64]
    omega
end Go.Proofs.YtokbiekdompaoaaDoor

/- PutText, PutFixed, PutFloat. -/
namespace Go.Proofs.YtokbiekdompaoaaDoor
open Go.RowKit

set_option maxRecDepth 100000 in
/-- A string's bytes, in new memory. -/
theorem str_bytes (bs : List UInt8) (w : World) : ∃ cap w1, (convert 9 55 (.string ⟨bs.toArray⟩)).run Tryd.prog w = .ok (.slice (some ⟨w.heap.size, 0, none⟩) bs.length cap) w1 ∧ At w1 (some ⟨w.heap.size, 0, none⟩) bs ∧ Adds w w1 := by
  refine ⟨_, _, run_bytes_of_string (P := Tryd.prog) w 9 55 5 ⟨bs.toArray⟩ Tryd.underlying9 Tryd.underlying55 Tryd.underlying5, ?_, (Touch.refl _ w).drew.alloc _⟩
  intro j c hj
  refine ⟨_, _, rfl, ?_⟩
  have hlt : j < bs.length := (List.getElem?_eq_some_iff.1 hj).1
  have hg : (w.drew.alloc (Obj.cells (bytesRow ⟨bs.toArray⟩ (grownCap w (ByteArray.size ⟨bs.toArray⟩) 0 5)) 5 ((bytesRow ⟨bs.toArray⟩ (grownCap w (ByteArray.size ⟨bs.toArray⟩) 0 5)).size, (bytesRow ⟨bs.toArray⟩ (grownCap w (ByteArray.size ⟨bs.toArray⟩) 0 5)).size + 1))).heap[w.heap.size]? = some _ := heap_alloc_new w.drew _
  rw [cell_of_row _ _ _ _ _ _ hg, Nat.zero_add, bytesRow_at _ _ j (by simpa using hlt)]
  rw [List.getElem?_eq_getElem hlt] at hj
  obtain rfl : bs[j] = c := by simpa using hj
  rfl
end Go.Proofs.YtokbiekdompaoaaDoor

/- PutFixed, PutFloat. -/
namespace Go.Proofs.YtokbiekdompaoaaDoor
open Go.RowKit

namespace M
set_option maxRecDepth 100000 in
theorem fix_head (k : Nat) : ∀ n, fix n (k + 1) = UInt8.ofNat (n / 256 ^ k % 256) :: fix n k := by
  induction k with
  | zero => intro n; simp [fix]
  | succ k ih =>
    intro n
    rw [fix, ih (n / 256), fix, List.cons_append, Nat.div_div_eq_div_mul, ← Nat.pow_succ']
/-- Eight bytes, of which k are laid. -/
def row (n k : Nat) : List UInt8 := List.replicate (8 - k) 0 ++ fix n k
set_option maxRecDepth 100000 in
theorem len_row (n k : Nat) (h : k ≤ 8) : (row n k).length = 8 := by rw [row, List.length_append, List.length_replicate, len_fix]; omega
set_option maxRecDepth 100000 in
theorem row_set (n k : Nat) (h : k < 8) : (row n k).set (7 - k) (UInt8.ofNat (n / 256 ^ k % 256)) = row n (k + 1) := by
  rw [row, row, fix_head, show 8 - k = (7 - k) + 1 by omega, show 8 - (k + 1) = 7 - k by omega, List.replicate_succ', List.append_assoc]
  rw [List.set_append_right _ _ (by simp)]
  simp
end M
set_option maxRecDepth 100000 in
theorem S_set (bs : List UInt8) (j : Nat) (c : UInt8) : (S bs).toArray.setIfInBounds j (.int .u8 (c.toNat : Int)) = (S (bs.set j c)).toArray := by
  rw [List.setIfInBounds_toArray, S, S, List.map_set]
  rfl
set_option maxRecDepth 100000 in
theorem byte_shift (n k : Nat) : (n : Int) / 2 ^ (8 * k) % 256 = ((UInt8.ofNat (n / 256 ^ k % 256)).toNat : Int) := by
  rw [M.ofNat_toNat _ (by omega), show 256 ^ k = 2 ^ (8 * k) by rw [Nat.pow_mul]]
  simp
set_option maxRecDepth 100000 in
theorem M.fix_drop (n q d : Nat) : (M.fix n (q + d)).drop d = M.fix n q := by
  induction d with
  | zero => rfl
  | succ d ih => rw [show q + (d + 1) = (q + d) + 1 by omega, M.fix_head, List.drop_succ_cons]; exact ih
set_option maxRecDepth 100000 in
theorem slice66 (g q : Nat) (hq : q ≤ 8) (w : World) : (Instr.sliceAt 115 (.pointer (some ⟨g, 0, none⟩)) (some (.int .i64 (8 - (q : Int)))) none none).run Tryd.prog w = .ok (.slice (some ⟨g, if q = 0 then 0 else 8 - q, none⟩) q q) w := by
  obtain ⟨i0, hi, hz0, hz1, hz2⟩ := info5all
  have hl : Tryd.prog.arrayLen 115 = 8 := by kernel_rfl
  have he : Tryd.prog.elem 115 = 5 := by kernel_rfl
  have e2 : (8 - (q : Int)).toNat = 8 - q := by omega
  rw [run_sliceAt_array_l (P := Tryd.prog) w 115 ⟨g, 0, none⟩ (by rw [hl, he]; exact Tryd.underlying115) .i64 (8 - (q : Int)) (by omega) (by rw [hl]; omega), he, hl, e2]
  simp only [sizeOf, typeInfo, Sem.run_bind, Sem.run_pure, Result.andThen, slicedAt]
  simp [hi, hz1]
  by_cases h0 : q = 0
  · subst h0; simp
  · rw [if_neg (by omega), if_neg h0, show 8 - (8 - q) = q by omega, Addr.add_mid]
    simp
set_option maxRecDepth 100000 in
set_option maxHeartbeats 1000000 in
theorem putFixed_any (a : Option Addr) (bs : List UInt8) (cap n : Nat) (z : Int) (w : World) (hl : bs.length ≤ 1000000) (hcap : a = none → cap = 0) (hA : At w a bs) : Calls Tryd.prog 58 #[.slice a bs.length cap, .int .u64 (n : Int), .int .i64 z] w (POwn w (bs ++ M.fix n (M.clamp z))) := by
  have HL := hid hl
  have HA := hid (And.intro hA hcap)
  clear hA hl hcap
  go_enter Tryd.func58, Tryd.ntmps58
  go_wp2
  go_loopw [9] (fun i wz => ∃ k : Nat, k ≤ 8 ∧ i = .int .i64 (k : Int) ∧ Hid (wz.heap[w.heap.size]? = some (.cells (S (M.row n k)).toArray 115 (0, 0)) ∧ Adds w wz)) (fun i _ => 8 - (intOf i).toNat)
  case atStart => exact ⟨0, by omega, rfl, heap_alloc_new w _, (Touch.refl _ w).alloc _⟩
  case round =>
    obtain ⟨k, hk, rfl, HI⟩ := hrel
    by_cases h8 : k < 8
    · obtain ⟨c, hc⟩ : ∃ c, c = UInt8.ofNat (n / 256 ^ k % 256) := ⟨_, rfl⟩
      have hby := byte_shift n k
      rw [← hc] at hby
      obtain ⟨x, hx⟩ : ∃ x, (M.row n k)[7 - k]? = some x := ⟨_, List.getElem?_eq_getElem (by rw [M.len_row n k hk]; omega)⟩
      have hcell : wr.cell? ⟨w.heap.size, 7 - k, none⟩ = some (.int .u8 (x.toNat : Int)) := by rw [cellOf HI.out.1 (7 - k), List.getElem?_toArray, S_get, hx]; rfl
      have hfr : wr.frozen? ⟨w.heap.size, 7 - k, none⟩ = false := frozen_of_row wr _ _ _ 115 HI.out.1
      have HN := hid (show (wr.setCell ⟨w.heap.size, 7 - k, none⟩ (.int .u8 (c.toNat : Int))).heap[w.heap.size]? = some (.cells (S (M.row n (k + 1))).toArray 115 (0, 0)) by
        rw [heap_setCell_same wr _ (7 - k) _ 115 _ HI.out.1, S_set, hc, M.row_set n k h8])
      clear hc hx
      go_wp2
      go_roundw
      case rel => exact ⟨k + 1, by omega, by go_num, HN.out, HI.out.2.setCell (fun h => absurd h (Nat.lt_irrefl _)) _⟩
      case measure => simp [intOf]; omega
    · obtain rfl : k = 8 := by omega
      have H1 := hid (within_any z wr)
      have hc8 := M.clamp_le z
      generalize hq : M.clamp z = q at *
      have HAt := hid (show At wr (some ⟨w.heap.size, 0, none⟩) (M.fix n 8) by
        intro j c hj
        refine ⟨_, _, rfl, ?_⟩
        rw [Nat.zero_add, cellOf HI.out.1 j, List.getElem?_toArray, S_get]
        rw [show M.row n 8 = M.fix n 8 by simp [M.row], hj]; rfl)
      have HAq := hid (show At wr (some ⟨w.heap.size, if q = 0 then 0 else 8 - q, none⟩) (M.fix n q) by
        by_cases h0 : q = 0
        · subst h0; exact At.nil _ _
        · rw [if_neg h0]
          have h := HAt.out.suf (8 - q)
          rw [Nat.zero_add] at h
          have e := M.fix_drop n q (8 - q)
          rw [show q + (8 - q) = 8 by omega] at e
          rw [e] at h; exact h)
      have hlq := M.len_fix q n
      have hsl := slice66 w.heap.size q hc8 wr
      generalize (if q = 0 then 0 else 8 - q) = oq at *
      have HC := hid (concat_two (w := wr) ⟨a, bs, cap⟩ ⟨some ⟨w.heap.size, oq, none⟩, M.fix n q, q⟩ (HA.out.1.adds HI.out.2) HAq.out HA.out.2 (fun e => by cases e) (by have := HL.out; simp; omega))
      simp only [hlq] at HC
      clear hq hlq
      go_wp2_with (first
        | (go_at_call 72; refine H1.out.mono ?_; rintro e w' ⟨rfl, rfl⟩)
        | (go_at_call 71; refine HC.out.mono ?_; rintro e w2 ⟨v2, rfl, h1, h2⟩; have HZ := hid (And.intro h1 h2); clear h1 h2))
      go_ret
      exact ⟨_, rfl, own_base HZ.out.1 HI.out.2.size, HI.out.2.trans HZ.out.2⟩
end Go.Proofs.YtokbiekdompaoaaDoor

/- What a reader's calls leave as it was. -/
namespace Go.Proofs.YtokbiekdompaoaaDoor
open Go.RowKit

/-- A block without bytes. -/
def Cold (w : World) (k : Nat) : Prop := ∀ j c, w.cell? ⟨k, j, none⟩ ≠ some (.int .u8 c)
theorem At.cold {w w' : World} {T : Nat → Prop} {a : Option Addr} {l : List UInt8} (h : At w a l) (hT : Touch T w w') (hc : ∀ k, T k → Cold w k) : At w' a l := by
  intro j c hj
  obtain ⟨b, o, rfl, hcell⟩ := h j c hj
  refine ⟨b, o, rfl, ?_⟩
  rw [World.cell?_of_block (w := w) (hT.block b (World.block_lt_of_cell? w _ hcell) (fun ht => hc b ht _ _ hcell))]
  exact hcell
theorem Lies.cold {w w' : World} {T : Nat → Prop} {p : Nat} {a : Option Addr} {l : List UInt8} {cap : Nat} (h : Lies w p a l cap) (hT : Touch T w w') (hc : ∀ k, T k → Cold w k) : Lies w' p a l cap :=
  ⟨h.at_.cold hT hc, h.room, h.non, h.low⟩
theorem cold_three {w : World} {k : Nat} {x : Bool} {y : Int} {a : Option Addr} {n cap : Nat} {t : TypeId} {fr : Nat × Nat} (h : w.heap[k]? = some (.cells #[.bool x, .int .i64 y, .slice a n cap] t fr)) : Cold w k := by
  intro j c
  rw [cellOf h j]
  match j with
  | 0 => simp
  | 1 => simp
  | 2 => simp
  | j + 3 => simp
theorem cold_two {w : World} {k : Nat} {y : Int} {a : Option Addr} {n cap : Nat} {t : TypeId} {fr : Nat × Nat} (h : w.heap[k]? = some (.cells #[.slice a n cap, .int .i64 y] t fr)) : Cold w k := by
  intro j c
  rw [cellOf h j]
  match j with
  | 0 => simp
  | 1 => simp
  | j + 2 => simp
theorem RD.cold {w : World} {v : Value} {s : M.St} (h : RD w v s) : ∀ k, Own1 v k → Cold w k := by
  intro k hk
  rcases h with ⟨rfl, _⟩ | ⟨p, rfl, hb, _⟩ | ⟨p, rfl, hR⟩
  · cases hk
  · obtain rfl : p = k := by simpa [Own1] using hk
    exact cold_three hb
  · obtain rfl : p = k := by simpa [Own1] using hk
    obtain ⟨a, cap, hb, _⟩ := hR.box
    exact cold_three hb
theorem lt_of_heap {w : World} {p : Nat} {o : Obj} (h : w.heap[p]? = some o) : p < w.heap.size := by
  rcases Nat.lt_or_ge p w.heap.size with h1 | h1
  · exact h1
  · rw [Array.getElem?_eq_none h1] at h; cases h
theorem RD.lt {w : World} {p : Nat} {s : M.St} (h : RD w (.pointer (some ⟨p, 0, none⟩)) s) : p < w.heap.size := by
  rcases h with ⟨e, _⟩ | ⟨q, e, hb, _⟩ | ⟨q, e, hR⟩
  · cases e
  · obtain rfl : p = q := by simpa using e
    exact lt_of_heap hb
  · obtain rfl : p = q := by simpa using e
    obtain ⟨a, cap, hb, _⟩ := hR.box
    exact lt_of_heap hb
theorem RD.keep {w w' : World} {T : Nat → Prop} {v : Value} {s : M.St} (h : RD w v s) (hT : Touch T w w') (hc : ∀ k, T k → Cold w k) (hn : ∀ k, Own1 v k → ¬ T k) : RD w' v s := by
  rcases h with h | ⟨p, rfl, hb, hs⟩ | ⟨p, rfl, hR⟩
  · exact .inl h
  · exact .inr (.inl ⟨p, rfl, by rw [hT.block p (lt_of_heap hb) (hn p rfl)]; exact hb, hs⟩)
  · obtain ⟨a, cap, hb, hL⟩ := hR.box
    exact .inr (.inr ⟨p, rfl, ⟨⟨a, cap, by rw [hT.block p (lt_of_heap hb) (hn p rfl)]; exact hb, hL.cold hT hc⟩, hR.good, hR.len, hR.err⟩⟩)
theorem RD.adds {w w' : World} {v : Value} {s : M.St} (h : RD w v s) (hA : Adds w w') : RD w' v s := h.keep hA (fun _ h => h.elim) (fun _ _ => id)
/-- Another reader than the one that was called. -/
theorem RD.other {w w' : World} {p q : Nat} {s : M.St} {u : M.St} (h : RD w (.pointer (some ⟨p, 0, none⟩)) s) (hq : RD w (.pointer (some ⟨q, 0, none⟩)) u) (hT : Touch (Own1 (.pointer (some ⟨q, 0, none⟩))) w w') (hne : p ≠ q) : RD w' (.pointer (some ⟨p, 0, none⟩)) s :=
  h.keep hT hq.cold (fun k hk hk2 => hne (by simp only [Own1, Value.pointer.injEq, Option.some.injEq, Addr.mk.injEq] at hk hk2; omega))
/-- A new block was turned alone. -/
theorem Adds.own {w w1 w2 : World} {p : Nat} (h : Adds w w1) (hT : Touch (Own1 (.pointer (some ⟨p, 0, none⟩))) w1 w2) (hp : w.heap.size ≤ p) : Adds w w2 :=
  h.then hT (fun i hi e => by simp only [Own1, Value.pointer.injEq, Option.some.injEq, Addr.mk.injEq] at e; omega)
end Go.Proofs.YtokbiekdompaoaaDoor

/- The reference's Uint, Int, Text, Fixed and Float. -/
namespace Go.Proofs.YtokbiekdompaoaaDoor
open Go.RowKit

theorem own_adds {w w' : World} {b : Nat} {v : Value} {n : Nat} {xs : List Value} (h : w.ownsRow b 5 1 v n xs) (hA : Adds w w') : w'.ownsRow b 5 1 v n xs := by
  obtain ⟨q1, q2⟩ := h
  refine ⟨q1, ?_⟩
  rcases q2 with q2 | ⟨g, cap, cur, q2, q3, q4, q5⟩
  · exact .inl q2
  · exact .inr ⟨g, cap, cur, q2, q3, by rw [hA.block g (lt_of_heap q4) id]; exact q4, q5⟩
theorem own_lit (w : World) (c : UInt8) : (w.alloc (.cells #[.int .u8 (c.toNat : Int)] 5)).ownsRow w.heap.size 5 1 (.slice (some ⟨w.heap.size, 0, none⟩) 1 1) 1 (S [c]) :=
  World.ownsRow_lit (base := w.heap.size) (e := 5) (size := 1) w #[.int .u8 (c.toNat : Int)] 1 (Nat.le_refl _) (by decide) rfl

end Go.Proofs.YtokbiekdompaoaaDoor
