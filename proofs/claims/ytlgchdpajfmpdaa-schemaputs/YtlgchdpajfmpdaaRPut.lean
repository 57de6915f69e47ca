/- The reference's Uint, Int, Text, Fixed and Float. -/
import Derived.Test.YtlgchdpajfmpdaaKeep
namespace Go.Proofs.Ytlgchdpajfmpdaa
open Go.RowKit

theorem own_adds {w w' : World} {b : Nat} {v : Value} {n : Nat} {xs : List Value} (h : w.ownsRow b 5 1 v n xs) (hA : Adds w w') : w'.ownsRow b 5 1 v n xs := by
  obtain ⟨q1, q2⟩ := h
  refine ⟨q1, ?_⟩
  rcases q2 with q2 | ⟨g, cap, cur, q2, q3, q4, q5⟩
  · exact .inl q2
  · exact .inr ⟨g, cap, cur, q2, q3, by rw [hA.block g (lt_of_heap q4) id]; exact q4, q5⟩
theorem own_lit (w : World) (c : UInt8) : (w.alloc (.cells #[.int .u8 (c.toNat : Int)] 5)).ownsRow w.heap.size 5 1 (.slice (some ⟨w.heap.size, 0, none⟩) 1 1) 1 (S [c]) :=
  World.ownsRow_lit (base := w.heap.size) (e := 5) (size := 1) w #[.int .u8 (c.toNat : Int)] 1 (Nat.le_refl _) (by decide) rfl

set_option maxRecDepth 100000 in
set_option maxHeartbeats 400000 in
theorem ruint_small (n : Nat) (hn : n < 128) (w : World) : Calls Try.prog 36 #[.int .u64 (n : Int)] w (POwn w (M.enc n)) := by
  obtain ⟨c, hc⟩ : ∃ c : UInt8, c = UInt8.ofNat n := ⟨_, rfl⟩
  obtain rfl : n = c.toNat := by rw [hc, M.ofNat_toNat _ (by omega)]
  have HE := hid (show M.enc c.toNat = [c] by rw [M.enc_small hn, ← hc])
  clear hc
  go_enter Try.func36, Try.ntmps36
  go_wp2
  go_ret
  rw [HE.out]
  exact ⟨_, rfl, own_lit w c, (Touch.refl _ w).alloc _⟩
set_option maxRecDepth 100000 in
set_option maxHeartbeats 400000 in
theorem ruint_big (n : Nat) (hn : ¬ n < 128) (hn2 : n < 18446744073709551616) (w : World) (ih : ∀ w', Calls Try.prog 36 #[.int .u64 ((n / 128 : Nat) : Int)] w' (POwn w' (M.enc (n / 128)))) : Calls Try.prog 36 #[.int .u64 (n : Int)] w (POwn w (M.enc n)) := by
  obtain ⟨c, hc⟩ : ∃ c : UInt8, c = UInt8.ofNat (n % 128 + 128) := ⟨_, rfl⟩
  have HE := hid (show M.enc n = [c] ++ M.enc (n / 128) by rw [M.enc_big hn, ← hc]; rfl)
  have hcv : (n : Int) % 128 + 128 = (c.toNat : Int) := by rw [hc, M.ofNat_toNat _ (by omega)]; omega
  have HI := hid ih
  have h10 := M.len_enc10 (show n / 128 < 18446744073709551616 by omega)
  clear hc ih
  go_enter Try.func36, Try.ntmps36
  go_wp2_with (first
    | (go_at_call 36; refine (HI.out _).mono ?_; rintro e w1 ⟨v1, rfl, h1, h2⟩; obtain ⟨a1, cap1, rfl, hL1⟩ := Own.lies h1; have Q1 := hid (And.intro hL1 h2); clear h1 h2 hL1)
    | (at_builtin; refine append_bytes rfl _ _ rfl w.heap.size (.slice (some ⟨w.heap.size, 0, none⟩) 1 1) 1 (S [c]) rfl (own_adds (own_lit w c) Q1.out.2) a1 (M.enc (n / 128)) cap1 rfl Q1.out.1.non Q1.out.1.at_ (by omega) (by have := Q1.out.2.size; simp at this; omega) ?_; intro v2 w2 hown1 hgrow1 hne1; have Q2 := hid (And.intro hown1 (show Adds w w2 from Touch.grown (((Touch.refl _ w).alloc _).trans Q1.out.2) hgrow1 (fun j hj hlt => by simp [Value.ownBlock] at hj; omega))); clear hown1 hgrow1 hne1))
  go_ret
  rw [HE.out]
  refine ⟨_, rfl, ?_, Q2.out.2⟩
  rw [List.length_append, S, List.map_append]
  exact Q2.out.1
theorem ruintp_any (n : Nat) : ∀ (_ : n < 18446744073709551616) (w : World), Calls Try.prog 36 #[.int .u64 (n : Int)] w (POwn w (M.enc n)) := by
  induction n using Nat.strongRecOn with
  | _ n ih =>
    intro hn w
    by_cases h : n < 128
    · exact ruint_small n h w
    · exact ruint_big n h hn w (fun w' => ih (n / 128) (by omega) (by omega) w')

set_option maxRecDepth 100000 in
set_option maxHeartbeats 400000 in
theorem rtextp_any (ts : List UInt8) (ht : ts.length ≤ 1000000) (w : World) : Calls Try.prog 35 #[.string ⟨ts.toArray⟩] w (POwn w (M.enc ts.length ++ ts)) := by
  have H := hid (ruintp_any ts.length (by omega) w)
  have h10 := M.len_enc10 (show ts.length < 18446744073709551616 by omega)
  go_enter Try.func35, Try.ntmps35
  go_wp2_with (first
    | (go_at_call 36; refine H.out.mono ?_; rintro e w1 ⟨v1, rfl, h1, h2⟩; have Q1 := hid (And.intro h1 h2); obtain ⟨cap2, w2, hcv, hA2, hT2⟩ := str_bytes ts w1; have HY := hid (And.intro hA2 hT2); clear h1 h2 hA2 hT2)
    | (at_builtin; refine append_bytes rfl _ _ rfl w.heap.size _ (M.enc ts.length).length (S (M.enc ts.length)) rfl (own_adds Q1.out.1 HY.out.2) (some ⟨w1.heap.size, 0, none⟩) ts cap2 rfl (fun e => by cases e) HY.out.1 (by omega) (Q1.out.2.trans HY.out.2).size ?_; intro v3 w3 hown1 hgrow1 hne1; have Q3 := hid (And.intro hown1 (show Adds w w3 from Touch.grown (Q1.out.2.trans HY.out.2) hgrow1 (fun j hj hlt => by have := (Q1.out.1.lt j hj).1; omega))); clear hown1 hgrow1 hne1))
  go_ret
  refine ⟨_, rfl, ?_, Q3.out.2⟩
  rw [List.length_append, S, List.map_append]
  exact Q3.out.1
end Go.Proofs.Ytlgchdpajfmpdaa
