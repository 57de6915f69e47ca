/- What is put is read: the walk. -/
import Derived.Test.YtlpeejbgefbfeaaBounds
namespace Go.Proofs.Ytlpeejbgefbfeaa
open Go.RowKit

namespace M
theorem nan_zero {b : Nat} (h : nan b = true) : zero b = false := by
  unfold nan Ieee.Format.order at h
  unfold zero Ieee.Format.order
  cases hr : Ieee.double.read b with
  | nan s f => rfl
  | infinity s => rw [hr] at h; cases s <;> cases h
  | number s m i =>
    rw [hr] at h
    simp [Ieee.Datum.order] at h
theorem rd1 (n : Nat) (h : n < 18446744073709551616) (r : List UInt8) : uintR n ⟨0, enc n ++ r⟩ = (n, ⟨0, r⟩) := uintR_ok (s := ⟨0, enc n ++ r⟩) rfl (scan_put n h r) (by omega)
theorem rd2 (z : Int) (h0 : -9223372036854775808 ≤ z) (h1 : z ≤ 9223372036854775807) (r : List UInt8) : intR ⟨0, enc (zig z) ++ r⟩ = (z, ⟨0, r⟩) := by
  have h := zig_lt h0 (show z < 9223372036854775808 by omega)
  rw [intR, uintR_ok (s := ⟨0, enc (zig z) ++ r⟩) rfl (scan_put _ h r) (by omega), unzig_zig]
theorem rd3 (ts r : List UInt8) (h : ts.length ≤ 2000) : textR ts.length ⟨0, enc ts.length ++ (ts ++ r)⟩ = (ts, ⟨0, r⟩) := by
  rw [textR, show atLeast0 (ts.length : Int) = ts.length by unfold atLeast0; split <;> omega, uintR_ok (s := ⟨0, enc ts.length ++ (ts ++ r)⟩) rfl (scan_put _ (by omega) _) (by omega), takeR_ok rfl (by simp)]
  simp
theorem rd4 (k n : Nat) (z : Int) (hz : clamp z = k) (r : List UInt8) : fixedR z ⟨0, fix n k ++ r⟩ = (n % 256 ^ k, ⟨0, r⟩) := by
  rw [fixedR, hz, takeR_ok (s := ⟨0, fix n k ++ r⟩) rfl (by simp [len_fix])]
  have h1 : (fix n k ++ r).take k = fix n k := by rw [List.take_append_of_le_length (by rw [len_fix]; exact Nat.le_refl _), List.take_of_length_le (by rw [len_fix]; exact Nat.le_refl _)]
  have h2 : (fix n k ++ r).drop k = r := by rw [List.drop_append_of_le_length (by rw [len_fix]; exact Nat.le_refl _), List.drop_of_length_le (by rw [len_fix]; exact Nat.le_refl _), List.nil_append]
  simp only [h1, h2, unfix_fix]
theorem rd5 (b : Nat) (hb : b < 18446744073709551616) (r : List UInt8) : floatR ⟨0, fix (canon b) 8 ++ r⟩ = (canon b, ⟨0, r⟩) := by
  have h := rd4 8 (canon b) 8 rfl r
  rw [Nat.mod_eq_of_lt (by have := canon_lt hb; omega)] at h
  rw [floatR, h, if_pos (canon_canon b)]
end M
theorem bk1 {w : World} {p n : Nat} {l r : List UInt8} (hl : l = M.enc n ++ r) (h : n < 18446744073709551616) (hR : RD w (Ptr p) ⟨0, l⟩) : Calls Try.prog 21 #[Ptr p, .int .u64 (n : Int)] w (PR w (Ptr p) (.int .u64 (n : Int)) ⟨0, r⟩) := by
  subst hl
  have h1 := uint_any n hR
  rw [M.rd1 n h r] at h1; exact h1
theorem bk2 {w : World} {p : Nat} {z : Int} {r : List UInt8} (hz : -9223372036854775808 ≤ z ∧ z ≤ 9223372036854775807) (hR : RD w (Ptr p) ⟨0, M.enc (M.zig z) ++ r⟩) : Calls Try.prog 23 #[Ptr p] w (PR w (Ptr p) (.int .i64 z) ⟨0, r⟩) := by
  have h1 := int_any hR
  rw [M.rd2 z hz.1 hz.2 r] at h1; exact h1
theorem bk3 {w : World} {p : Nat} {ts r : List UInt8} (ht : ts.length ≤ 2000) (hR : RD w (Ptr p) ⟨0, M.enc ts.length ++ (ts ++ r)⟩) : Calls Try.prog 25 #[Ptr p, .int .i64 (ts.length : Int)] w (PR w (Ptr p) (.string ⟨ts.toArray⟩) ⟨0, r⟩) := by
  have h1 := text_any (ts.length : Int) (by omega) hR
  rw [M.rd3 ts r ht] at h1; exact h1
theorem bk4 {w : World} {p b : Nat} {r : List UInt8} (hb : b < 18446744073709551616) (hR : RD w (Ptr p) ⟨0, M.fix (M.canon b) 8 ++ r⟩) : Calls Try.prog 28 #[Ptr p] w (PR w (Ptr p) (.float .f64 (M.canon b)) ⟨0, r⟩) := by
  have h1 := float_any hR
  rw [M.rd5 b hb r] at h1; exact h1
theorem bk5 {w : World} {p n : Nat} {r : List UInt8} (hR : RD w (Ptr p) ⟨0, M.fix n 3 ++ r⟩) : Calls Try.prog 30 #[Ptr p, .int .i64 3] w (PR w (Ptr p) (.int .u64 ((n % 16777216 : Nat) : Int)) ⟨0, r⟩) := by
  have h1 := fixed_any 3 hR
  rw [M.rd4 3 n 3 rfl r] at h1; exact h1
theorem bk6 {w : World} {p : Nat} {r : List UInt8} (hR : RD w (Ptr p) ⟨0, r⟩) : Calls Try.prog 33 #[Ptr p] w fun e w' => e = .returned (.int .i64 (r.length : Int)) ∧ w' = w := left_any hR
theorem bk7 {w : World} {p : Nat} {r : List UInt8} (hR : RD w (Ptr p) ⟨0, r⟩) : Calls Try.prog 34 #[Ptr p] w fun e w' => e = .returned (.int .i64 0) ∧ w' = w := err_any hR
set_option maxHeartbeats 400000 in
theorem sign0 (w : World) : Calls Try.prog 37 #[.float .f64 0] w fun e w' => e = .returned (.bool false) ∧ w' = w := by
  have hx := ext47 0 w
  go_enter Try.func37, Try.ntmps37
  go_wp2
  go_ret
  exact ⟨rfl, rfl⟩
/-- What a put makes of bytes of one's own. -/
def PPut (w : World) (l : List UInt8) (e : Ending) (w' : World) : Prop := ∃ a cap, e = .returned (.slice a l.length cap) ∧ Hid (Lies w' w'.heap.size a l cap ∧ w'.ownsRow w.heap.size 5 1 (.slice a l.length cap) l.length (S l) ∧ Adds w w')
theorem POwn.put {w w' : World} {l : List UInt8} {e : Ending} (h : POwn w l e w') : PPut w l e w' := by
  obtain ⟨v, rfl, h1, h2⟩ := h
  obtain ⟨a, cap, rfl, hL⟩ := Own.lies h1
  exact ⟨a, cap, rfl, hL, h1, h2⟩
theorem pp1 {n : Nat} {l : List UInt8} (hl : l = M.enc n) (hn : n < 18446744073709551616) (w : World) : Calls Try.prog 9 #[.slice none 0 0, .int .u64 (n : Int)] w (PPut w l) := by
  subst hl
  exact (putUint_any none [] 0 n w (by decide) hn (fun _ => rfl) (At.nil _ _)).mono fun _ _ h => POwn.put h
theorem pp2 {z : Int} {a : Option Addr} {k l : List UInt8} {cap p : Nat} {w : World} (hl : l = k ++ M.enc (M.zig z)) (hk : k.length ≤ 5000) (hz : -9223372036854775808 ≤ z ∧ z ≤ 9223372036854775807) (hL : Lies w p a k cap) : Calls Try.prog 11 #[.slice a k.length cap, .int .i64 z] w (PPut w l) := by
  subst hl
  exact (putInt_any a k cap z w (by omega) hz.1 hz.2 hL.non hL.at_).mono fun _ _ h => POwn.put h
theorem pp3 {ts : List UInt8} {a : Option Addr} {k l : List UInt8} {cap p : Nat} {w : World} (hl : l = k ++ (M.enc ts.length ++ ts)) (hk : k.length ≤ 5000) (ht : ts.length ≤ 2000) (hL : Lies w p a k cap) : Calls Try.prog 13 #[.slice a k.length cap, .string ⟨ts.toArray⟩] w (PPut w l) := by
  subst hl
  exact (putText_any a k cap ts w (by omega) (by omega) hL.non hL.at_).mono fun _ _ h => POwn.put h
theorem pp4 {b : Nat} {a : Option Addr} {k l : List UInt8} {cap p : Nat} {w : World} (hl : l = k ++ M.fix (M.canon b) 8) (hk : k.length ≤ 5000) (hL : Lies w p a k cap) : Calls Try.prog 15 #[.slice a k.length cap, .float .f64 b] w (PPut w l) := by
  subst hl
  exact (putFloat_any a k cap b w (by omega) hL.non hL.at_).mono fun _ _ h => POwn.put h
theorem pp5 {n : Nat} {a : Option Addr} {k l : List UInt8} {cap p : Nat} {w : World} (hl : l = k ++ M.fix n 3) (hk : k.length ≤ 5000) (hL : Lies w p a k cap) : Calls Try.prog 17 #[.slice a k.length cap, .int .u64 (n : Int), .int .i64 3] w (PPut w l) := by
  subst hl
  exact (putFixed_any a k cap n 3 w (by omega) hL.non hL.at_).mono fun _ _ h => POwn.put h
/-- The six pieces. -/
structure Six (n : Nat) (z : Int) (ts : List UInt8) (b : Nat) (ls l1 l2 l3 l4 l5 l6 : List UInt8) : Prop where
  e1 : l1 = M.enc n
  e2 : l2 = l1 ++ M.enc (M.zig z)
  e3 : l3 = l2 ++ (M.enc ts.length ++ ts)
  e4 : l4 = l3 ++ M.fix (M.canon b) 8
  e5 : l5 = l4 ++ M.fix n 3
  e6 : l6 = l5 ++ ls
  all : l6 = M.enc n ++ (M.enc (M.zig z) ++ (M.enc ts.length ++ (ts ++ (M.fix (M.canon b) 8 ++ (M.fix n 3 ++ ls)))))
  k1 : l1.length ≤ 5000
  k2 : l2.length ≤ 5000
  k3 : l3.length ≤ 5000
  k4 : l4.length ≤ 5000
  k5 : l5.length ≤ 5000
  k6 : l6.length ≤ 10000
theorem six (n : Nat) (z : Int) (ts : List UInt8) (b : Nat) (ls : List UInt8) (hn : n < 18446744073709551616) (hz : -9223372036854775808 ≤ z ∧ z ≤ 9223372036854775807) (ht : ts.length ≤ 2000) (hs : ls.length ≤ 2000) : ∃ l1 l2 l3 l4 l5 l6, Six n z ts b ls l1 l2 l3 l4 l5 l6 := by
  have h1 := M.len_enc10 hn
  have h2 := M.len_enc10 (M.zig_lt hz.1 (by omega))
  have h3 := M.len_enc10 (show ts.length < 18446744073709551616 by omega)
  refine ⟨_, _, _, _, _, _, rfl, rfl, rfl, rfl, rfl, rfl, by simp, ?_, ?_, ?_, ?_, ?_, ?_⟩ <;> (try simp only [List.length_append, M.len_fix]) <;> omega
set_option maxRecDepth 100000 in
set_option maxHeartbeats 1000000 in
theorem back_long (n : Int) (z : Int) (ts : List UInt8) (b : Nat) (a : Option Addr) (len cap : Nat) (h : 2000 < ts.length ∨ 2000 < len) (w : World) :
    Calls Try.prog 6 #[.int .u64 n, .int .i64 z, .string ⟨ts.toArray⟩, .float .f64 b, .slice a len cap] w (PLaw w) := by
  by_cases h1 : 2000 < ts.length
  · have h1' : (2000 : Int) < (ts.length : Int) := by omega
    clear h
    go_enter Try.func6, Try.ntmps6
    go_wp2_with (first | (go_at_call 19; refine (works_any w).mono ?_; rintro e w1 ⟨rfl, h1⟩; have A1 := hid h1; clear h1))
    go_ret
    exact ⟨rfl, A1.out⟩
  · have h1' : ¬ ((2000 : Int) < (ts.length : Int)) := by omega
    have h2' : (2000 : Int) < (len : Int) := by omega
    clear h
    go_enter Try.func6, Try.ntmps6
    go_wp2_with (first | (go_at_call 19; refine (works_any w).mono ?_; rintro e w1 ⟨rfl, h1⟩; have A1 := hid h1; clear h1))
    go_ret
    exact ⟨rfl, A1.out⟩
theorem own_app {w : World} {base : Nat} {bs cs l : List UInt8} {v : Value} (hl : l = bs ++ cs) (h : w.ownsRow base 5 1 v (bs.length + cs.length) (S bs ++ S cs)) : ∃ a cap, v = .slice a l.length cap ∧ Lies w w.heap.size a l cap := by
  subst hl
  refine Own.lies (base := base) ?_
  rw [List.length_append, S, List.map_append]
  exact h
set_option maxRecDepth 100000 in
set_option maxHeartbeats 2000000 in
theorem back_short (n : Nat) (z : Int) (ts : List UInt8) (b : Nat) (a : Option Addr) (ls : List UInt8) (cap : Nat) (w : World) (hn : n < 18446744073709551616) (hz : -9223372036854775808 ≤ z ∧ z ≤ 9223372036854775807) (hb : b < 18446744073709551616) (ht : ts.length ≤ 2000) (hs : ls.length ≤ 2000) (hcap : a = none → cap = 0) (hA : At w a ls) :
    Calls Try.prog 6 #[.int .u64 (n : Int), .int .i64 z, .string ⟨ts.toArray⟩, .float .f64 b, .slice a ls.length cap] w (PLaw w) := by
  obtain ⟨l1, l2, l3, l4, l5, l6, hS⟩ := six n z ts b ls hn hz ht hs
  have HS := hid hS
  have HN := hid hn
  have HZ := hid hz
  have HB := hid hb
  have HT := hid ht
  have HA := hid (And.intro hA hcap)
  have ht' : ¬ ((2000 : Int) < (ts.length : Int)) := by omega
  have hs' : ¬ ((2000 : Int) < (ls.length : Int)) := by omega
  clear hS hz hb hA hcap
  by_cases h1 : M.nan b = true
  · have HC := hid (show M.canon b = 9221120237041090561 by rw [M.canon, if_pos h1])
    have f1 : (FloatKind.f64.format.order b b != some .eq) = true := h1
    have f2 : (FloatKind.f64.format.order b b == some .eq) = false := by simpa using f1
    have f3 : (FloatKind.f64.format.order 9221120237041090561 9221120237041090561 == some .eq) = false := by decide
    have f4 : (FloatKind.f64.format.order b 0 == some .eq) = false := M.nan_zero h1
    clear h1
    go_enter Try.func6, Try.ntmps6
    go_wp2_with (first
      | (go_at_call 19; refine (works_any w).mono ?_; rintro e w1 ⟨rfl, h1⟩; have A1 := hid h1; clear h1)
      | (go_at_call 9; refine (pp1 HS.out.e1 HN.out w1).mono ?_; rintro e w2 ⟨a2, cap2, rfl, P2⟩; have A2 := hid (A1.out.trans P2.out.2.2))
      | (go_at_call 11; refine (pp2 HS.out.e2 HS.out.k1 HZ.out P2.out.1).mono ?_; rintro e w3 ⟨a3, cap3, rfl, P3⟩; have A3 := hid (A2.out.trans P3.out.2.2))
      | (go_at_call 13; refine (pp3 HS.out.e3 HS.out.k2 HT.out P3.out.1).mono ?_; rintro e w4 ⟨a4, cap4, rfl, P4⟩; have A4 := hid (A3.out.trans P4.out.2.2))
      | (go_at_call 15; refine (pp4 HS.out.e4 HS.out.k3 P4.out.1).mono ?_; rintro e w5 ⟨a5, cap5, rfl, P5⟩; have A5 := hid (A4.out.trans P5.out.2.2))
      | (go_at_call 17; refine (pp5 HS.out.e5 HS.out.k4 P5.out.1).mono ?_; rintro e w6 ⟨a6, cap6, rfl, P6⟩; have A6 := hid (A5.out.trans P6.out.2.2))
      | (at_builtin; refine append_bytes rfl _ _ rfl w5.heap.size _ l5.length (S l5) rfl P6.out.2.1 a ls cap rfl HA.out.2 (HA.out.1.adds A6.out) (by have := HS.out.k5; omega) P6.out.2.2.size ?_; intro v7 w7 hown1 hgrow1 hne1; obtain ⟨a7, cap7, rfl, hL7⟩ := own_app HS.out.e6 hown1; have P7 := hid (And.intro hL7 (show Adds w w7 from A5.out.trans (Touch.grown P6.out.2.2 hgrow1 (fun j hj hlt => by have := (P6.out.2.1.lt j hj).1; omega)))); clear hown1 hgrow1 hne1 hL7)
      | (go_at_call 20; refine (read_any a7 l6 cap7 w7 (by have := HS.out.k6; omega) P7.out.1.non P7.out.1.at_).mono ?_; rintro e w8 ⟨p, rfl, h1, h2, h3⟩; have Q8 := hid (And.intro h2 (And.intro (Nat.le_trans P7.out.2.size h1) (P7.out.2.trans h3))); clear h1 h2 h3)
      | (go_at_call 21; refine (bk1 HS.out.all HN.out Q8.out.1).mono ?_; rintro e w9 ⟨rfl, h1, h2⟩; have Q9 := hid (And.intro h1 (Adds.own Q8.out.2.2 h2 Q8.out.2.1)); clear h1 h2)
      | (go_at_call 23; refine (bk2 HZ.out Q9.out.1).mono ?_; rintro e w10 ⟨rfl, h1, h2⟩; have Q10 := hid (And.intro h1 (Adds.own Q9.out.2 h2 Q8.out.2.1)); clear h1 h2)
      | (go_at_call 25; refine (bk3 HT.out Q10.out.1).mono ?_; rintro e w11 ⟨rfl, h1, h2⟩; have Q11 := hid (And.intro h1 (Adds.own Q10.out.2 h2 Q8.out.2.1)); clear h1 h2)
      | (go_at_call 28; refine (bk4 HB.out Q11.out.1).mono ?_; rintro e w12 ⟨rfl, h1, h2⟩; rw [HC.out]; have Q12 := hid (And.intro h1 (Adds.own Q11.out.2 h2 Q8.out.2.1)); clear h1 h2)
      | (go_at_call 37; refine (sign0 _).mono ?_; rintro e w' ⟨rfl, hw⟩; obtain rfl := hw.symm)
      | (go_at_call 30; refine (bk5 Q12.out.1).mono ?_; rintro e w13 ⟨rfl, h1, h2⟩; have Q13 := hid (And.intro h1 (Adds.own Q12.out.2 h2 Q8.out.2.1)); clear h1 h2)
      | (go_at_call 33; refine (bk6 Q13.out.1).mono ?_; rintro e w' ⟨rfl, hw⟩; obtain rfl := hw.symm)
      | (go_at_call 34; refine (bk7 Q13.out.1).mono ?_; rintro e w' ⟨rfl, hw⟩; obtain rfl := hw.symm))
    all_goals (go_ret; exact ⟨rfl, Q13.out.2⟩)
  · have f1 : (FloatKind.f64.format.order b b != some .eq) = false := Bool.eq_false_iff.2 h1
    have f2 : (FloatKind.f64.format.order b b == some .eq) = true := by simpa using f1
    by_cases h2 : M.zero b = true
    · have HC := hid (show M.canon b = 0 by rw [M.canon, if_neg h1, if_pos h2])
      have f3 : (FloatKind.f64.format.order 0 b != some .eq) = false := by
        have h := M.order_nought b h2
        show (Ieee.double.order 0 b != some .eq) = false
        rw [h]; rfl
      have f4 : (FloatKind.f64.format.order b 0 == some .eq) = true := h2
      clear h1 h2
      go_enter Try.func6, Try.ntmps6
      go_wp2_with (first
        | (go_at_call 19; refine (works_any w).mono ?_; rintro e w1 ⟨rfl, h1⟩; have A1 := hid h1; clear h1)
        | (go_at_call 9; refine (pp1 HS.out.e1 HN.out w1).mono ?_; rintro e w2 ⟨a2, cap2, rfl, P2⟩; have A2 := hid (A1.out.trans P2.out.2.2))
        | (go_at_call 11; refine (pp2 HS.out.e2 HS.out.k1 HZ.out P2.out.1).mono ?_; rintro e w3 ⟨a3, cap3, rfl, P3⟩; have A3 := hid (A2.out.trans P3.out.2.2))
        | (go_at_call 13; refine (pp3 HS.out.e3 HS.out.k2 HT.out P3.out.1).mono ?_; rintro e w4 ⟨a4, cap4, rfl, P4⟩; have A4 := hid (A3.out.trans P4.out.2.2))
        | (go_at_call 15; refine (pp4 HS.out.e4 HS.out.k3 P4.out.1).mono ?_; rintro e w5 ⟨a5, cap5, rfl, P5⟩; have A5 := hid (A4.out.trans P5.out.2.2))
        | (go_at_call 17; refine (pp5 HS.out.e5 HS.out.k4 P5.out.1).mono ?_; rintro e w6 ⟨a6, cap6, rfl, P6⟩; have A6 := hid (A5.out.trans P6.out.2.2))
        | (at_builtin; refine append_bytes rfl _ _ rfl w5.heap.size _ l5.length (S l5) rfl P6.out.2.1 a ls cap rfl HA.out.2 (HA.out.1.adds A6.out) (by have := HS.out.k5; omega) P6.out.2.2.size ?_; intro v7 w7 hown1 hgrow1 hne1; obtain ⟨a7, cap7, rfl, hL7⟩ := own_app HS.out.e6 hown1; have P7 := hid (And.intro hL7 (show Adds w w7 from A5.out.trans (Touch.grown P6.out.2.2 hgrow1 (fun j hj hlt => by have := (P6.out.2.1.lt j hj).1; omega)))); clear hown1 hgrow1 hne1 hL7)
        | (go_at_call 20; refine (read_any a7 l6 cap7 w7 (by have := HS.out.k6; omega) P7.out.1.non P7.out.1.at_).mono ?_; rintro e w8 ⟨p, rfl, h1, h2, h3⟩; have Q8 := hid (And.intro h2 (And.intro (Nat.le_trans P7.out.2.size h1) (P7.out.2.trans h3))); clear h1 h2 h3)
        | (go_at_call 21; refine (bk1 HS.out.all HN.out Q8.out.1).mono ?_; rintro e w9 ⟨rfl, h1, h2⟩; have Q9 := hid (And.intro h1 (Adds.own Q8.out.2.2 h2 Q8.out.2.1)); clear h1 h2)
        | (go_at_call 23; refine (bk2 HZ.out Q9.out.1).mono ?_; rintro e w10 ⟨rfl, h1, h2⟩; have Q10 := hid (And.intro h1 (Adds.own Q9.out.2 h2 Q8.out.2.1)); clear h1 h2)
        | (go_at_call 25; refine (bk3 HT.out Q10.out.1).mono ?_; rintro e w11 ⟨rfl, h1, h2⟩; have Q11 := hid (And.intro h1 (Adds.own Q10.out.2 h2 Q8.out.2.1)); clear h1 h2)
        | (go_at_call 28; refine (bk4 HB.out Q11.out.1).mono ?_; rintro e w12 ⟨rfl, h1, h2⟩; rw [HC.out]; have Q12 := hid (And.intro h1 (Adds.own Q11.out.2 h2 Q8.out.2.1)); clear h1 h2)
        | (go_at_call 37; refine (sign0 _).mono ?_; rintro e w' ⟨rfl, hw⟩; obtain rfl := hw.symm)
        | (go_at_call 30; refine (bk5 Q12.out.1).mono ?_; rintro e w13 ⟨rfl, h1, h2⟩; have Q13 := hid (And.intro h1 (Adds.own Q12.out.2 h2 Q8.out.2.1)); clear h1 h2)
        | (go_at_call 33; refine (bk6 Q13.out.1).mono ?_; rintro e w' ⟨rfl, hw⟩; obtain rfl := hw.symm)
        | (go_at_call 34; refine (bk7 Q13.out.1).mono ?_; rintro e w' ⟨rfl, hw⟩; obtain rfl := hw.symm))
      all_goals (go_ret; exact ⟨rfl, Q13.out.2⟩)
    · have HC := hid (show M.canon b = b by rw [M.canon, if_neg h1, if_neg h2])
      have f4 : (FloatKind.f64.format.order b 0 == some .eq) = false := Bool.eq_false_iff.2 h2
      clear h1 h2
      go_enter Try.func6, Try.ntmps6
      go_wp2_with (first
        | (go_at_call 19; refine (works_any w).mono ?_; rintro e w1 ⟨rfl, h1⟩; have A1 := hid h1; clear h1)
        | (go_at_call 9; refine (pp1 HS.out.e1 HN.out w1).mono ?_; rintro e w2 ⟨a2, cap2, rfl, P2⟩; have A2 := hid (A1.out.trans P2.out.2.2))
        | (go_at_call 11; refine (pp2 HS.out.e2 HS.out.k1 HZ.out P2.out.1).mono ?_; rintro e w3 ⟨a3, cap3, rfl, P3⟩; have A3 := hid (A2.out.trans P3.out.2.2))
        | (go_at_call 13; refine (pp3 HS.out.e3 HS.out.k2 HT.out P3.out.1).mono ?_; rintro e w4 ⟨a4, cap4, rfl, P4⟩; have A4 := hid (A3.out.trans P4.out.2.2))
        | (go_at_call 15; refine (pp4 HS.out.e4 HS.out.k3 P4.out.1).mono ?_; rintro e w5 ⟨a5, cap5, rfl, P5⟩; have A5 := hid (A4.out.trans P5.out.2.2))
        | (go_at_call 17; refine (pp5 HS.out.e5 HS.out.k4 P5.out.1).mono ?_; rintro e w6 ⟨a6, cap6, rfl, P6⟩; have A6 := hid (A5.out.trans P6.out.2.2))
        | (at_builtin; refine append_bytes rfl _ _ rfl w5.heap.size _ l5.length (S l5) rfl P6.out.2.1 a ls cap rfl HA.out.2 (HA.out.1.adds A6.out) (by have := HS.out.k5; omega) P6.out.2.2.size ?_; intro v7 w7 hown1 hgrow1 hne1; obtain ⟨a7, cap7, rfl, hL7⟩ := own_app HS.out.e6 hown1; have P7 := hid (And.intro hL7 (show Adds w w7 from A5.out.trans (Touch.grown P6.out.2.2 hgrow1 (fun j hj hlt => by have := (P6.out.2.1.lt j hj).1; omega)))); clear hown1 hgrow1 hne1 hL7)
        | (go_at_call 20; refine (read_any a7 l6 cap7 w7 (by have := HS.out.k6; omega) P7.out.1.non P7.out.1.at_).mono ?_; rintro e w8 ⟨p, rfl, h1, h2, h3⟩; have Q8 := hid (And.intro h2 (And.intro (Nat.le_trans P7.out.2.size h1) (P7.out.2.trans h3))); clear h1 h2 h3)
        | (go_at_call 21; refine (bk1 HS.out.all HN.out Q8.out.1).mono ?_; rintro e w9 ⟨rfl, h1, h2⟩; have Q9 := hid (And.intro h1 (Adds.own Q8.out.2.2 h2 Q8.out.2.1)); clear h1 h2)
        | (go_at_call 23; refine (bk2 HZ.out Q9.out.1).mono ?_; rintro e w10 ⟨rfl, h1, h2⟩; have Q10 := hid (And.intro h1 (Adds.own Q9.out.2 h2 Q8.out.2.1)); clear h1 h2)
        | (go_at_call 25; refine (bk3 HT.out Q10.out.1).mono ?_; rintro e w11 ⟨rfl, h1, h2⟩; have Q11 := hid (And.intro h1 (Adds.own Q10.out.2 h2 Q8.out.2.1)); clear h1 h2)
        | (go_at_call 28; refine (bk4 HB.out Q11.out.1).mono ?_; rintro e w12 ⟨rfl, h1, h2⟩; rw [HC.out]; have Q12 := hid (And.intro h1 (Adds.own Q11.out.2 h2 Q8.out.2.1)); clear h1 h2)
        | (go_at_call 37; refine (sign0 _).mono ?_; rintro e w' ⟨rfl, hw⟩; obtain rfl := hw.symm)
        | (go_at_call 30; refine (bk5 Q12.out.1).mono ?_; rintro e w13 ⟨rfl, h1, h2⟩; have Q13 := hid (And.intro h1 (Adds.own Q12.out.2 h2 Q8.out.2.1)); clear h1 h2)
        | (go_at_call 33; refine (bk6 Q13.out.1).mono ?_; rintro e w' ⟨rfl, hw⟩; obtain rfl := hw.symm)
        | (go_at_call 34; refine (bk7 Q13.out.1).mono ?_; rintro e w' ⟨rfl, hw⟩; obtain rfl := hw.symm))
      all_goals (go_ret; exact ⟨rfl, Q13.out.2⟩)
end Go.Proofs.Ytlpeejbgefbfeaa
