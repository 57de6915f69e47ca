/- A number above the most, a text likewise: the walk. -/
import Derived.Test.YtlpeejbgefbfeaaNobody
namespace Go.Proofs.Ytlpeejbgefbfeaa
open Go.RowKit

theorem put_one (n : Nat) (hn : n < 18446744073709551616) (w : World) : Calls Try.prog 9 #[.slice none 0 0, .int .u64 (n : Int)] w (POwn w (M.enc n)) :=
  putUint_any none [] 0 n w (by decide) hn (fun _ => rfl) (At.nil _ _)
theorem put_text {ts b2 : List UInt8} (hb : M.enc ts.length ++ ts = b2) (hn : ts.length ≤ 2000) (w : World) : Calls Try.prog 13 #[.slice none 0 0, .string ⟨ts.toArray⟩] w (POwn w b2) := by
  subst hb
  exact putText_any none [] 0 ts w (by decide) (by omega) (fun _ => rfl) (At.nil _ _)
/-- One byte behind bytes of one's own. -/
theorem own_snoc {w : World} {base : Nat} {bs b1 : List UInt8} {c : UInt8} {v : Value} (hb : bs ++ [c] = b1) (h : w.ownsRow base 5 1 v (bs.length + [c].length) (S bs ++ S [c])) : ∃ a cap, v = .slice a b1.length cap ∧ Lies w w.heap.size a b1 cap := by
  subst hb
  refine Own.lies (base := base) ?_
  rw [List.length_append, S, List.map_append]
  exact h
theorem bd1 {w : World} {p : Nat} {n most : Nat} {b1 : List UInt8} (hb : M.enc n ++ [7] = b1) (hn : n < 18446744073709551616) (h : RD w (Ptr p) ⟨0, b1⟩) (hm : most < n) : Calls Try.prog 21 #[Ptr p, .int .u64 (most : Int)] w (PR w (Ptr p) (.int .u64 0) ⟨3, []⟩) := by
  subst hb
  have h1 := uint_any most h
  rw [M.uintR_big (s := ⟨0, M.enc n ++ [7]⟩) rfl (M.scan_put n hn [7]) hm] at h1
  exact h1
theorem bd2 {w : World} {p : Nat} {n most : Nat} {b1 : List UInt8} (hb : M.enc n ++ [7] = b1) (hn : n < 18446744073709551616) (h : RD w (Ptr p) ⟨0, b1⟩) (hm : ¬ most < n) : Calls Try.prog 21 #[Ptr p, .int .u64 (most : Int)] w (PR w (Ptr p) (.int .u64 (n : Int)) ⟨0, [7]⟩) := by
  subst hb
  have h1 := uint_any most h
  rw [M.uintR_ok (s := ⟨0, M.enc n ++ [7]⟩) rfl (M.scan_put n hn [7]) hm] at h1
  exact h1
theorem bd3 {w : World} {p : Nat} (h : RD w (Ptr p) ⟨3, []⟩) : Calls Try.prog 32 #[Ptr p] w (PR w (Ptr p) (.int .u8 0) ⟨3, []⟩) := byte_any h
theorem bd4 {w : World} {p : Nat} (h : RD w (Ptr p) ⟨0, [7]⟩) : Calls Try.prog 32 #[Ptr p] w (PR w (Ptr p) (.int .u8 7) ⟨0, []⟩) := byte_any h
theorem bd5 {w : World} {p : Nat} (n : Nat) (h : RD w (Ptr p) ⟨n, []⟩) : Calls Try.prog 33 #[Ptr p] w fun e w' => e = .returned (.int .i64 0) ∧ w' = w := left_any h
theorem bd6 {w : World} {p : Nat} (h : RD w (Ptr p) ⟨0, [7]⟩) : Calls Try.prog 33 #[Ptr p] w fun e w' => e = .returned (.int .i64 1) ∧ w' = w := left_any h
theorem bd7 {w : World} {p : Nat} {ts b2 : List UInt8} (hb : M.enc ts.length ++ ts = b2) (z : Int) (hz : -9223372036854775808 ≤ z ∧ z ≤ 9223372036854775807) (ht : ts.length ≤ 2000) (h : RD w (Ptr p) ⟨0, b2⟩) (hm : z < ts.length ∧ 0 < ts.length) : Calls Try.prog 25 #[Ptr p, .int .i64 z] w (PR w (Ptr p) (.string ⟨#[]⟩) ⟨3, []⟩) := by
  subst hb
  have h1 := text_any z hz h
  rw [M.textR, M.uintR_big (s := ⟨0, M.enc ts.length ++ ts⟩) rfl (M.scan_put ts.length (by omega) ts) (by unfold M.atLeast0; split <;> omega)] at h1
  exact h1
theorem bd8 {w : World} {p : Nat} {ts b2 : List UInt8} (hb : M.enc ts.length ++ ts = b2) (z : Int) (hz : -9223372036854775808 ≤ z ∧ z ≤ 9223372036854775807) (ht : ts.length ≤ 2000) (h : RD w (Ptr p) ⟨0, b2⟩) (hm : ¬ (z < ts.length ∧ 0 < ts.length)) : Calls Try.prog 25 #[Ptr p, .int .i64 z] w (PR w (Ptr p) (.string ⟨ts.toArray⟩) ⟨0, []⟩) := by
  subst hb
  have h1 := text_any z hz h
  rw [M.textR, M.uintR_ok (s := ⟨0, M.enc ts.length ++ ts⟩) rfl (M.scan_put ts.length (by omega) ts) (by unfold M.atLeast0; split <;> omega), M.takeR_ok rfl (by simp)] at h1
  simp only [List.take_length, List.drop_length] at h1
  exact h1
set_option maxRecDepth 100000 in
set_option maxHeartbeats 1000000 in
theorem bounds_walk (n most : Nat) (ts : List UInt8) (z : Int) (hn : n < 18446744073709551616) (hz : -9223372036854775808 ≤ z ∧ z ≤ 9223372036854775807) (w : World) :
    Calls Try.prog 8 #[.int .u64 (n : Int), .int .u64 (most : Int), .string ⟨ts.toArray⟩, .int .i64 z] w (PLaw w) := by
  have h10 := M.len_enc10 hn
  have HN := hid hn
  obtain ⟨b1, hb1⟩ : ∃ b1, M.enc n ++ [7] = b1 := ⟨_, rfl⟩
  obtain ⟨b2, hb2⟩ : ∃ b2, M.enc ts.length ++ ts = b2 := ⟨_, rfl⟩
  have hl1 : b1.length ≤ 11 := by rw [← hb1]; simp; omega
  have HB1 := hid hb1
  have HB2 := hid hb2
  clear hb1 hb2
  have HZ := hid hz
  clear hn hz
  by_cases hm : most < n
  · by_cases h2 : 2000 < ts.length
    · have hm' : (most : Int) < (n : Int) := by omega
      have ht' : (2000 : Int) < (ts.length : Int) := by omega
      go_enter Try.func8, Try.ntmps8
      go_wp2_with (first
        | (go_at_call 19; refine (works_any w).mono ?_; rintro e w1 ⟨rfl, h1⟩; have A1 := hid h1; clear h1)
        | (go_at_call 9; refine (put_one n HN.out w1).mono ?_; rintro e w2 ⟨v2, rfl, h1, h2⟩; have Q2 := hid (And.intro h1 h2); clear h1 h2)
        | (at_builtin; refine append_bytes rfl _ _ rfl w1.heap.size _ (M.enc n).length (S (M.enc n)) rfl (Q2.out.1.kept (World.grownBy_alloc w2 _ none) (own_none _)) (some ⟨w2.heap.size, 0, none⟩) [7] 1 rfl (fun e => by cases e) (At.one w2 7) (by simp; omega) (by have := Q2.out.2.size; simp; omega) ?_; intro v3 w3 hown1 hgrow1 hne1; obtain ⟨a3, cap3, rfl, hL3⟩ := own_snoc HB1.out hown1; have Q3 := hid (And.intro hL3 (show Adds w w3 from A1.out.trans (Touch.grown (Q2.out.2.alloc _) hgrow1 (fun j hj hlt => by have := (Q2.out.1.lt j hj).1; omega)))); clear hown1 hgrow1 hne1 hL3)
        | (go_at_call 20; refine (read_any a7 b2 cap7 w7 HL2.out Q7.out.1.non Q7.out.1.at_).mono ?_; rintro e w8 ⟨q, rfl, h1, h2, h3⟩; have Q8 := hid (And.intro h2 (And.intro (Nat.le_trans Q7.out.2.size h1) (Q7.out.2.trans h3))); clear h1 h2 h3)
        | (go_at_call 20; refine (read_any a3 b1 cap3 w3 (by omega) Q3.out.1.non Q3.out.1.at_).mono ?_; rintro e w4 ⟨p, rfl, h1, h2, h3⟩; have Q4 := hid (And.intro h2 (And.intro (Nat.le_trans Q3.out.2.size h1) (Q3.out.2.trans h3))); clear h1 h2 h3)
        | (go_at_call 21; refine (bd1 HB1.out HN.out Q4.out.1 hm).mono ?_; rintro e w5 ⟨rfl, h1, h2⟩; have Q5 := hid (And.intro h1 (Adds.own Q4.out.2.2 h2 Q4.out.2.1)); clear h1 h2)
        | (go_at_call 34; refine (exF p 3 w5 Q5.out.1).mono ?_; rintro e w' ⟨rfl, hw⟩; obtain rfl := hw.symm)
        | (go_at_call 32; refine (bd3 Q5.out.1).mono ?_; rintro e w6 ⟨rfl, h1, h2⟩; have Q6 := hid (And.intro h1 (Adds.own Q5.out.2 h2 Q4.out.2.1)); clear h1 h2)
        | (go_at_call 33; refine (bd5 3 Q6.out.1).mono ?_; rintro e w' ⟨rfl, hw⟩; obtain rfl := hw.symm))
      all_goals (go_ret; exact ⟨rfl, Q6.out.2⟩)
    · by_cases hc : z < ts.length ∧ 0 < ts.length
      · have hm' : (most : Int) < (n : Int) := by omega
        have ht' : ¬ (2000 : Int) < (ts.length : Int) := by omega
        have HT := hid (show ts.length ≤ 2000 by omega)
        have HL2 := hid (show b2.length ≤ 1000000 by rw [← HB2.out]; have := M.len_enc10 (show ts.length < 18446744073709551616 by omega); simp; omega)
        have hc1 : z < (ts.length : Int) := hc.1
        have hc2 : (0 : Int) < (ts.length : Int) := by omega
        have HC := hid hc
        go_enter Try.func8, Try.ntmps8
        go_wp2_with (first
          | (go_at_call 19; refine (works_any w).mono ?_; rintro e w1 ⟨rfl, h1⟩; have A1 := hid h1; clear h1)
          | (go_at_call 9; refine (put_one n HN.out w1).mono ?_; rintro e w2 ⟨v2, rfl, h1, h2⟩; have Q2 := hid (And.intro h1 h2); clear h1 h2)
          | (at_builtin; refine append_bytes rfl _ _ rfl w1.heap.size _ (M.enc n).length (S (M.enc n)) rfl (Q2.out.1.kept (World.grownBy_alloc w2 _ none) (own_none _)) (some ⟨w2.heap.size, 0, none⟩) [7] 1 rfl (fun e => by cases e) (At.one w2 7) (by simp; omega) (by have := Q2.out.2.size; simp; omega) ?_; intro v3 w3 hown1 hgrow1 hne1; obtain ⟨a3, cap3, rfl, hL3⟩ := own_snoc HB1.out hown1; have Q3 := hid (And.intro hL3 (show Adds w w3 from A1.out.trans (Touch.grown (Q2.out.2.alloc _) hgrow1 (fun j hj hlt => by have := (Q2.out.1.lt j hj).1; omega)))); clear hown1 hgrow1 hne1 hL3)
          | (go_at_call 20; refine (read_any a7 b2 cap7 w7 HL2.out Q7.out.1.non Q7.out.1.at_).mono ?_; rintro e w8 ⟨q, rfl, h1, h2, h3⟩; have Q8 := hid (And.intro h2 (And.intro (Nat.le_trans Q7.out.2.size h1) (Q7.out.2.trans h3))); clear h1 h2 h3)
          | (go_at_call 20; refine (read_any a3 b1 cap3 w3 (by omega) Q3.out.1.non Q3.out.1.at_).mono ?_; rintro e w4 ⟨p, rfl, h1, h2, h3⟩; have Q4 := hid (And.intro h2 (And.intro (Nat.le_trans Q3.out.2.size h1) (Q3.out.2.trans h3))); clear h1 h2 h3)
          | (go_at_call 34; refine (exF q 3 w9 Q9.out.1).mono ?_; rintro e w' ⟨rfl, hw⟩; obtain rfl := hw.symm)
          | (go_at_call 25; refine (bd7 HB2.out z HZ.out HT.out Q8.out.1 HC.out).mono ?_; rintro e w9 ⟨rfl, h1, h2⟩; have Q9 := hid (And.intro h1 (Adds.own Q8.out.2.2 h2 Q8.out.2.1)); clear h1 h2)
          | (go_at_call 13; refine (put_text HB2.out HT.out w6).mono ?_; rintro e w7 ⟨v7, rfl, h1, h2⟩; obtain ⟨a7, cap7, rfl, hL7⟩ := Own.lies h1; have Q7 := hid (And.intro hL7 (Q6.out.2.trans h2)); clear h1 h2 hL7)
          | (go_at_call 21; refine (bd1 HB1.out HN.out Q4.out.1 hm).mono ?_; rintro e w5 ⟨rfl, h1, h2⟩; have Q5 := hid (And.intro h1 (Adds.own Q4.out.2.2 h2 Q4.out.2.1)); clear h1 h2)
          | (go_at_call 34; refine (exF p 3 w5 Q5.out.1).mono ?_; rintro e w' ⟨rfl, hw⟩; obtain rfl := hw.symm)
          | (go_at_call 32; refine (bd3 Q5.out.1).mono ?_; rintro e w6 ⟨rfl, h1, h2⟩; have Q6 := hid (And.intro h1 (Adds.own Q5.out.2 h2 Q4.out.2.1)); clear h1 h2)
          | (go_at_call 33; refine (bd5 3 Q6.out.1).mono ?_; rintro e w' ⟨rfl, hw⟩; obtain rfl := hw.symm))
        all_goals (go_ret; exact ⟨rfl, Q9.out.2⟩)
      · have hm' : (most : Int) < (n : Int) := by omega
        have ht' : ¬ (2000 : Int) < (ts.length : Int) := by omega
        have HT := hid (show ts.length ≤ 2000 by omega)
        have HL2 := hid (show b2.length ≤ 1000000 by rw [← HB2.out]; have := M.len_enc10 (show ts.length < 18446744073709551616 by omega); simp; omega)
        have hc1 : (decide (z < (ts.length : Int)) && decide ((0 : Int) < (ts.length : Int))) = false := by rw [Bool.and_eq_false_iff, decide_eq_false_iff_not, decide_eq_false_iff_not]; omega
        have HC := hid hc
        go_enter Try.func8, Try.ntmps8
        go_wp2_with (first
          | (go_at_call 19; refine (works_any w).mono ?_; rintro e w1 ⟨rfl, h1⟩; have A1 := hid h1; clear h1)
          | (go_at_call 9; refine (put_one n HN.out w1).mono ?_; rintro e w2 ⟨v2, rfl, h1, h2⟩; have Q2 := hid (And.intro h1 h2); clear h1 h2)
          | (at_builtin; refine append_bytes rfl _ _ rfl w1.heap.size _ (M.enc n).length (S (M.enc n)) rfl (Q2.out.1.kept (World.grownBy_alloc w2 _ none) (own_none _)) (some ⟨w2.heap.size, 0, none⟩) [7] 1 rfl (fun e => by cases e) (At.one w2 7) (by simp; omega) (by have := Q2.out.2.size; simp; omega) ?_; intro v3 w3 hown1 hgrow1 hne1; obtain ⟨a3, cap3, rfl, hL3⟩ := own_snoc HB1.out hown1; have Q3 := hid (And.intro hL3 (show Adds w w3 from A1.out.trans (Touch.grown (Q2.out.2.alloc _) hgrow1 (fun j hj hlt => by have := (Q2.out.1.lt j hj).1; omega)))); clear hown1 hgrow1 hne1 hL3)
          | (go_at_call 20; refine (read_any a7 b2 cap7 w7 HL2.out Q7.out.1.non Q7.out.1.at_).mono ?_; rintro e w8 ⟨q, rfl, h1, h2, h3⟩; have Q8 := hid (And.intro h2 (And.intro (Nat.le_trans Q7.out.2.size h1) (Q7.out.2.trans h3))); clear h1 h2 h3)
          | (go_at_call 20; refine (read_any a3 b1 cap3 w3 (by omega) Q3.out.1.non Q3.out.1.at_).mono ?_; rintro e w4 ⟨p, rfl, h1, h2, h3⟩; have Q4 := hid (And.intro h2 (And.intro (Nat.le_trans Q3.out.2.size h1) (Q3.out.2.trans h3))); clear h1 h2 h3)
          | (go_at_call 35; refine (exE q w9 Q9.out.1).mono ?_; rintro e w' ⟨rfl, hw⟩; obtain rfl := hw.symm)
          | (go_at_call 25; refine (bd8 HB2.out z HZ.out HT.out Q8.out.1 HC.out).mono ?_; rintro e w9 ⟨rfl, h1, h2⟩; have Q9 := hid (And.intro h1 (Adds.own Q8.out.2.2 h2 Q8.out.2.1)); clear h1 h2)
          | (go_at_call 13; refine (put_text HB2.out HT.out w6).mono ?_; rintro e w7 ⟨v7, rfl, h1, h2⟩; obtain ⟨a7, cap7, rfl, hL7⟩ := Own.lies h1; have Q7 := hid (And.intro hL7 (Q6.out.2.trans h2)); clear h1 h2 hL7)
          | (go_at_call 21; refine (bd1 HB1.out HN.out Q4.out.1 hm).mono ?_; rintro e w5 ⟨rfl, h1, h2⟩; have Q5 := hid (And.intro h1 (Adds.own Q4.out.2.2 h2 Q4.out.2.1)); clear h1 h2)
          | (go_at_call 34; refine (exF p 3 w5 Q5.out.1).mono ?_; rintro e w' ⟨rfl, hw⟩; obtain rfl := hw.symm)
          | (go_at_call 32; refine (bd3 Q5.out.1).mono ?_; rintro e w6 ⟨rfl, h1, h2⟩; have Q6 := hid (And.intro h1 (Adds.own Q5.out.2 h2 Q4.out.2.1)); clear h1 h2)
          | (go_at_call 33; refine (bd5 3 Q6.out.1).mono ?_; rintro e w' ⟨rfl, hw⟩; obtain rfl := hw.symm))
        all_goals (go_ret; exact ⟨rfl, Q9.out.2⟩)
  · by_cases h2 : 2000 < ts.length
    · have hm' : ¬ (most : Int) < (n : Int) := by omega
      have ht' : (2000 : Int) < (ts.length : Int) := by omega
      go_enter Try.func8, Try.ntmps8
      go_wp2_with (first
        | (go_at_call 19; refine (works_any w).mono ?_; rintro e w1 ⟨rfl, h1⟩; have A1 := hid h1; clear h1)
        | (go_at_call 9; refine (put_one n HN.out w1).mono ?_; rintro e w2 ⟨v2, rfl, h1, h2⟩; have Q2 := hid (And.intro h1 h2); clear h1 h2)
        | (at_builtin; refine append_bytes rfl _ _ rfl w1.heap.size _ (M.enc n).length (S (M.enc n)) rfl (Q2.out.1.kept (World.grownBy_alloc w2 _ none) (own_none _)) (some ⟨w2.heap.size, 0, none⟩) [7] 1 rfl (fun e => by cases e) (At.one w2 7) (by simp; omega) (by have := Q2.out.2.size; simp; omega) ?_; intro v3 w3 hown1 hgrow1 hne1; obtain ⟨a3, cap3, rfl, hL3⟩ := own_snoc HB1.out hown1; have Q3 := hid (And.intro hL3 (show Adds w w3 from A1.out.trans (Touch.grown (Q2.out.2.alloc _) hgrow1 (fun j hj hlt => by have := (Q2.out.1.lt j hj).1; omega)))); clear hown1 hgrow1 hne1 hL3)
        | (go_at_call 20; refine (read_any a7 b2 cap7 w7 HL2.out Q7.out.1.non Q7.out.1.at_).mono ?_; rintro e w8 ⟨q, rfl, h1, h2, h3⟩; have Q8 := hid (And.intro h2 (And.intro (Nat.le_trans Q7.out.2.size h1) (Q7.out.2.trans h3))); clear h1 h2 h3)
        | (go_at_call 20; refine (read_any a3 b1 cap3 w3 (by omega) Q3.out.1.non Q3.out.1.at_).mono ?_; rintro e w4 ⟨p, rfl, h1, h2, h3⟩; have Q4 := hid (And.intro h2 (And.intro (Nat.le_trans Q3.out.2.size h1) (Q3.out.2.trans h3))); clear h1 h2 h3)
        | (go_at_call 21; refine (bd2 HB1.out HN.out Q4.out.1 hm).mono ?_; rintro e w5 ⟨rfl, h1, h2⟩; have Q5 := hid (And.intro h1 (Adds.own Q4.out.2.2 h2 Q4.out.2.1)); clear h1 h2)
        | (go_at_call 33; refine (bd6 Q5.out.1).mono ?_; rintro e w' ⟨rfl, hw⟩; obtain rfl := hw.symm)
        | (go_at_call 32; refine (bd4 Q5.out.1).mono ?_; rintro e w6 ⟨rfl, h1, h2⟩; have Q6 := hid (And.intro h1 (Adds.own Q5.out.2 h2 Q4.out.2.1)); clear h1 h2))
      all_goals (go_ret; exact ⟨rfl, Q6.out.2⟩)
    · by_cases hc : z < ts.length ∧ 0 < ts.length
      · have hm' : ¬ (most : Int) < (n : Int) := by omega
        have ht' : ¬ (2000 : Int) < (ts.length : Int) := by omega
        have HT := hid (show ts.length ≤ 2000 by omega)
        have HL2 := hid (show b2.length ≤ 1000000 by rw [← HB2.out]; have := M.len_enc10 (show ts.length < 18446744073709551616 by omega); simp; omega)
        have hc1 : z < (ts.length : Int) := hc.1
        have hc2 : (0 : Int) < (ts.length : Int) := by omega
        have HC := hid hc
        go_enter Try.func8, Try.ntmps8
        go_wp2_with (first
          | (go_at_call 19; refine (works_any w).mono ?_; rintro e w1 ⟨rfl, h1⟩; have A1 := hid h1; clear h1)
          | (go_at_call 9; refine (put_one n HN.out w1).mono ?_; rintro e w2 ⟨v2, rfl, h1, h2⟩; have Q2 := hid (And.intro h1 h2); clear h1 h2)
          | (at_builtin; refine append_bytes rfl _ _ rfl w1.heap.size _ (M.enc n).length (S (M.enc n)) rfl (Q2.out.1.kept (World.grownBy_alloc w2 _ none) (own_none _)) (some ⟨w2.heap.size, 0, none⟩) [7] 1 rfl (fun e => by cases e) (At.one w2 7) (by simp; omega) (by have := Q2.out.2.size; simp; omega) ?_; intro v3 w3 hown1 hgrow1 hne1; obtain ⟨a3, cap3, rfl, hL3⟩ := own_snoc HB1.out hown1; have Q3 := hid (And.intro hL3 (show Adds w w3 from A1.out.trans (Touch.grown (Q2.out.2.alloc _) hgrow1 (fun j hj hlt => by have := (Q2.out.1.lt j hj).1; omega)))); clear hown1 hgrow1 hne1 hL3)
          | (go_at_call 20; refine (read_any a7 b2 cap7 w7 HL2.out Q7.out.1.non Q7.out.1.at_).mono ?_; rintro e w8 ⟨q, rfl, h1, h2, h3⟩; have Q8 := hid (And.intro h2 (And.intro (Nat.le_trans Q7.out.2.size h1) (Q7.out.2.trans h3))); clear h1 h2 h3)
          | (go_at_call 20; refine (read_any a3 b1 cap3 w3 (by omega) Q3.out.1.non Q3.out.1.at_).mono ?_; rintro e w4 ⟨p, rfl, h1, h2, h3⟩; have Q4 := hid (And.intro h2 (And.intro (Nat.le_trans Q3.out.2.size h1) (Q3.out.2.trans h3))); clear h1 h2 h3)
          | (go_at_call 34; refine (exF q 3 w9 Q9.out.1).mono ?_; rintro e w' ⟨rfl, hw⟩; obtain rfl := hw.symm)
          | (go_at_call 25; refine (bd7 HB2.out z HZ.out HT.out Q8.out.1 HC.out).mono ?_; rintro e w9 ⟨rfl, h1, h2⟩; have Q9 := hid (And.intro h1 (Adds.own Q8.out.2.2 h2 Q8.out.2.1)); clear h1 h2)
          | (go_at_call 13; refine (put_text HB2.out HT.out w6).mono ?_; rintro e w7 ⟨v7, rfl, h1, h2⟩; obtain ⟨a7, cap7, rfl, hL7⟩ := Own.lies h1; have Q7 := hid (And.intro hL7 (Q6.out.2.trans h2)); clear h1 h2 hL7)
          | (go_at_call 21; refine (bd2 HB1.out HN.out Q4.out.1 hm).mono ?_; rintro e w5 ⟨rfl, h1, h2⟩; have Q5 := hid (And.intro h1 (Adds.own Q4.out.2.2 h2 Q4.out.2.1)); clear h1 h2)
          | (go_at_call 33; refine (bd6 Q5.out.1).mono ?_; rintro e w' ⟨rfl, hw⟩; obtain rfl := hw.symm)
          | (go_at_call 32; refine (bd4 Q5.out.1).mono ?_; rintro e w6 ⟨rfl, h1, h2⟩; have Q6 := hid (And.intro h1 (Adds.own Q5.out.2 h2 Q4.out.2.1)); clear h1 h2))
        all_goals (go_ret; exact ⟨rfl, Q9.out.2⟩)
      · have hm' : ¬ (most : Int) < (n : Int) := by omega
        have ht' : ¬ (2000 : Int) < (ts.length : Int) := by omega
        have HT := hid (show ts.length ≤ 2000 by omega)
        have HL2 := hid (show b2.length ≤ 1000000 by rw [← HB2.out]; have := M.len_enc10 (show ts.length < 18446744073709551616 by omega); simp; omega)
        have hc1 : (decide (z < (ts.length : Int)) && decide ((0 : Int) < (ts.length : Int))) = false := by rw [Bool.and_eq_false_iff, decide_eq_false_iff_not, decide_eq_false_iff_not]; omega
        have HC := hid hc
        go_enter Try.func8, Try.ntmps8
        go_wp2_with (first
          | (go_at_call 19; refine (works_any w).mono ?_; rintro e w1 ⟨rfl, h1⟩; have A1 := hid h1; clear h1)
          | (go_at_call 9; refine (put_one n HN.out w1).mono ?_; rintro e w2 ⟨v2, rfl, h1, h2⟩; have Q2 := hid (And.intro h1 h2); clear h1 h2)
          | (at_builtin; refine append_bytes rfl _ _ rfl w1.heap.size _ (M.enc n).length (S (M.enc n)) rfl (Q2.out.1.kept (World.grownBy_alloc w2 _ none) (own_none _)) (some ⟨w2.heap.size, 0, none⟩) [7] 1 rfl (fun e => by cases e) (At.one w2 7) (by simp; omega) (by have := Q2.out.2.size; simp; omega) ?_; intro v3 w3 hown1 hgrow1 hne1; obtain ⟨a3, cap3, rfl, hL3⟩ := own_snoc HB1.out hown1; have Q3 := hid (And.intro hL3 (show Adds w w3 from A1.out.trans (Touch.grown (Q2.out.2.alloc _) hgrow1 (fun j hj hlt => by have := (Q2.out.1.lt j hj).1; omega)))); clear hown1 hgrow1 hne1 hL3)
          | (go_at_call 20; refine (read_any a7 b2 cap7 w7 HL2.out Q7.out.1.non Q7.out.1.at_).mono ?_; rintro e w8 ⟨q, rfl, h1, h2, h3⟩; have Q8 := hid (And.intro h2 (And.intro (Nat.le_trans Q7.out.2.size h1) (Q7.out.2.trans h3))); clear h1 h2 h3)
          | (go_at_call 20; refine (read_any a3 b1 cap3 w3 (by omega) Q3.out.1.non Q3.out.1.at_).mono ?_; rintro e w4 ⟨p, rfl, h1, h2, h3⟩; have Q4 := hid (And.intro h2 (And.intro (Nat.le_trans Q3.out.2.size h1) (Q3.out.2.trans h3))); clear h1 h2 h3)
          | (go_at_call 35; refine (exE q w9 Q9.out.1).mono ?_; rintro e w' ⟨rfl, hw⟩; obtain rfl := hw.symm)
          | (go_at_call 25; refine (bd8 HB2.out z HZ.out HT.out Q8.out.1 HC.out).mono ?_; rintro e w9 ⟨rfl, h1, h2⟩; have Q9 := hid (And.intro h1 (Adds.own Q8.out.2.2 h2 Q8.out.2.1)); clear h1 h2)
          | (go_at_call 13; refine (put_text HB2.out HT.out w6).mono ?_; rintro e w7 ⟨v7, rfl, h1, h2⟩; obtain ⟨a7, cap7, rfl, hL7⟩ := Own.lies h1; have Q7 := hid (And.intro hL7 (Q6.out.2.trans h2)); clear h1 h2 hL7)
          | (go_at_call 21; refine (bd2 HB1.out HN.out Q4.out.1 hm).mono ?_; rintro e w5 ⟨rfl, h1, h2⟩; have Q5 := hid (And.intro h1 (Adds.own Q4.out.2.2 h2 Q4.out.2.1)); clear h1 h2)
          | (go_at_call 33; refine (bd6 Q5.out.1).mono ?_; rintro e w' ⟨rfl, hw⟩; obtain rfl := hw.symm)
          | (go_at_call 32; refine (bd4 Q5.out.1).mono ?_; rintro e w6 ⟨rfl, h1, h2⟩; have Q6 := hid (And.intro h1 (Adds.own Q5.out.2 h2 Q4.out.2.1)); clear h1 h2))
        all_goals (go_ret; exact ⟨rfl, Q9.out.2⟩)
end Go.Proofs.Ytlpeejbgefbfeaa
