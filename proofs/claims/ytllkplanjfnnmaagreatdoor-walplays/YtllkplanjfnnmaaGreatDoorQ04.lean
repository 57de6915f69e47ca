/- Texts put together: Keep, RPut. -/
import Derived.Test.YtllkplanjfnnmaaGreatDoorQ03
/- What a reader's calls leave as it was. -/
namespace Go.Proofs.YtllkplanjfnnmaaGreatDoor
open Go.RowKit

/-- A block without bytes. -/
def Cold (w : World) (k : Nat) : Prop := ∀ j c, w.cell? ⟨k, j, none⟩ ≠ some (.int .u8 c)
theorem At.cold {w w' : World} {T : Nat → Prop} {a : Option Addr} {l : List UInt8} (h : At w a l) (hT : Touch T w w') (hc : ∀ k, T k → Cold w k) : At w' a l := by
  intro j c hj
  obtain ⟨b, o, rfl, hcell⟩ := h j c hj
  refine ⟨b, o, rfl, ?_⟩
  rw [World.cell?_of_block (w := w) (hT.block b (World.block_lt_of_cell? w _ hcell) (fun ht => hc b ht _ _ hcell))]
  exact hcell
theorem Lies.cold {w w' : World} {T : Nat → Prop} {p : Nat} {a : Option Addr} {l : List UInt8} {cap : Nat} (h : Lies w p a l cap) (hT : Touch T w w') (hc : ∀ k, T k → Cold w k) : Lies w' p a l cap :=
  ⟨h.at_.cold hT hc, h.room, h.non, h.low⟩
theorem cold_three {w : World} {k : Nat} {x : Bool} {y : Int} {a : Option Addr} {n cap : Nat} {t : TypeId} {fr : Nat × Nat} (h : w.heap[k]? = some (.cells #[.bool x, .int .i64 y, .slice a n cap] t fr)) : Cold w k := by
  intro j c
  rw [cellOf h j]
  match j with
  | 0 => simp
  | 1 => simp
  | 2 => simp
  | j + 3 => simp
theorem cold_two {w : World} {k : Nat} {y : Int} {a : Option Addr} {n cap : Nat} {t : TypeId} {fr : Nat × Nat} (h : w.heap[k]? = some (.cells #[.slice a n cap, .int .i64 y] t fr)) : Cold w k := by
  intro j c
  rw [cellOf h j]
  match j with
  | 0 => simp
  | 1 => simp
  | j + 2 => simp
theorem RD.cold {w : World} {v : Value} {s : M.St} (h : RD w v s) : ∀ k, Own1 v k → Cold w k := by
  intro k hk
  rcases h with ⟨rfl, _⟩ | ⟨p, rfl, hb, _⟩ | ⟨p, rfl, hR⟩
  · cases hk
  · obtain rfl : p = k := by simpa [Own1] using hk
    exact cold_three hb
  · obtain rfl : p = k := by simpa [Own1] using hk
    obtain ⟨a, cap, hb, _⟩ := hR.box
    exact cold_three hb
theorem IsS.cold {w : World} {p : Nat} {s : M.St} (h : IsS w p s) : ∀ k, Own1 (.pointer (some ⟨p, 0, none⟩)) k → Cold w k := by
  intro k hk
  obtain rfl : p = k := by simpa [Own1] using hk
  obtain ⟨a, cap, hb, _⟩ := h.box
  exact cold_two hb
theorem lt_of_heap {w : World} {p : Nat} {o : Obj} (h : w.heap[p]? = some o) : p < w.heap.size := by
  rcases Nat.lt_or_ge p w.heap.size with h1 | h1
  · exact h1
  · rw [Array.getElem?_eq_none h1] at h; cases h
theorem RD.lt {w : World} {p : Nat} {s : M.St} (h : RD w (.pointer (some ⟨p, 0, none⟩)) s) : p < w.heap.size := by
  rcases h with ⟨e, _⟩ | ⟨q, e, hb, _⟩ | ⟨q, e, hR⟩
  · cases e
  · obtain rfl : p = q := by simpa using e
    exact lt_of_heap hb
  · obtain rfl : p = q := by simpa using e
    obtain ⟨a, cap, hb, _⟩ := hR.box
    exact lt_of_heap hb
theorem IsS.lt {w : World} {p : Nat} {s : M.St} (h : IsS w p s) : p < w.heap.size := by
  obtain ⟨a, cap, hb, _⟩ := h.box
  exact lt_of_heap hb
theorem RD.keep {w w' : World} {T : Nat → Prop} {v : Value} {s : M.St} (h : RD w v s) (hT : Touch T w w') (hc : ∀ k, T k → Cold w k) (hn : ∀ k, Own1 v k → ¬ T k) : RD w' v s := by
  rcases h with h | ⟨p, rfl, hb, hs⟩ | ⟨p, rfl, hR⟩
  · exact .inl h
  · exact .inr (.inl ⟨p, rfl, by rw [hT.block p (lt_of_heap hb) (hn p rfl)]; exact hb, hs⟩)
  · obtain ⟨a, cap, hb, hL⟩ := hR.box
    exact .inr (.inr ⟨p, rfl, ⟨⟨a, cap, by rw [hT.block p (lt_of_heap hb) (hn p rfl)]; exact hb, hL.cold hT hc⟩, hR.good, hR.len, hR.err⟩⟩)
theorem IsS.keep {w w' : World} {T : Nat → Prop} {p : Nat} {s : M.St} (h : IsS w p s) (hT : Touch T w w') (hc : ∀ k, T k → Cold w k) (hn : ¬ T p) : IsS w' p s := by
  obtain ⟨a, cap, hb, hL⟩ := h.box
  exact ⟨⟨a, cap, by rw [hT.block p (lt_of_heap hb) hn]; exact hb, hL.cold hT hc⟩, h.good, h.len, h.err⟩
theorem RD.adds {w w' : World} {v : Value} {s : M.St} (h : RD w v s) (hA : Adds w w') : RD w' v s := h.keep hA (fun _ h => h.elim) (fun _ _ => id)
theorem IsS.adds {w w' : World} {p : Nat} {s : M.St} (h : IsS w p s) (hA : Adds w w') : IsS w' p s := h.keep hA (fun _ h => h.elim) id
/-- Another reader than the one that was called. -/
theorem RD.other {w w' : World} {p q : Nat} {s : M.St} {u : M.St} (h : RD w (.pointer (some ⟨p, 0, none⟩)) s) (hq : RD w (.pointer (some ⟨q, 0, none⟩)) u) (hT : Touch (Own1 (.pointer (some ⟨q, 0, none⟩))) w w') (hne : p ≠ q) : RD w' (.pointer (some ⟨p, 0, none⟩)) s :=
  h.keep hT hq.cold (fun k hk hk2 => hne (by simp only [Own1, Value.pointer.injEq, Option.some.injEq, Addr.mk.injEq] at hk hk2; omega))
/-- A new block was turned alone. -/
theorem Adds.own {w w1 w2 : World} {p : Nat} (h : Adds w w1) (hT : Touch (Own1 (.pointer (some ⟨p, 0, none⟩))) w1 w2) (hp : w.heap.size ≤ p) : Adds w w2 :=
  h.then hT (fun i hi e => by simp only [Own1, Value.pointer.injEq, Option.some.injEq, Addr.mk.injEq] at e; omega)
end Go.Proofs.YtllkplanjfnnmaaGreatDoor

/- The reference's Uint, Int, Text, Fixed and Float. -/
namespace Go.Proofs.YtllkplanjfnnmaaGreatDoor
open Go.RowKit

theorem own_adds {w w' : World} {b : Nat} {v : Value} {n : Nat} {xs : List Value} (h : w.ownsRow b 5 1 v n xs) (hA : Adds w w') : w'.ownsRow b 5 1 v n xs := by
  obtain ⟨q1, q2⟩ := h
  refine ⟨q1, ?_⟩
  rcases q2 with q2 | ⟨g, cap, cur, q2, q3, q4, q5⟩
  · exact .inl q2
  · exact .inr ⟨g, cap, cur, q2, q3, by rw [hA.block g (lt_of_heap q4) id]; exact q4, q5⟩
theorem own_lit (w : World) (c : UInt8) : (w.alloc (.cells #[.int .u8 (c.toNat : Int)] 5)).ownsRow w.heap.size 5 1 (.slice (some ⟨w.heap.size, 0, none⟩) 1 1) 1 (S [c]) :=
  World.ownsRow_lit (base := w.heap.size) (e := 5) (size := 1) w #[.int .u8 (c.toNat : Int)] 1 (Nat.le_refl _) (by decide) rfl

set_option maxRecDepth 100000 in
set_option maxHeartbeats 400000 in
theorem ruint_small (n : Nat) (hn : n < 128) (w : World) : Calls Tryz.prog 80 #[.int .u64 (n : Int)] w (POwn w (M.enc n)) := by
  obtain ⟨c, hc⟩ : ∃ c : UInt8, c = UInt8.ofNat n := ⟨_, rfl⟩
  obtain rfl : n = c.toNat := by rw [hc, M.ofNat_toNat _ (by omega)]
  have HE := hid (show M.enc c.toNat = [c] by rw [M.enc_small hn, ← hc])
  clear hc
  go_enter Tryz.func80, Tryz.ntmps80
  go_wp2
  go_ret
  rw [HE.out]
  exact ⟨_, rfl, own_lit w c, (Touch.refl _ w).alloc _⟩
set_option maxRecDepth 100000 in
set_option maxHeartbeats 400000 in
theorem ruint_big (n : Nat) (hn : ¬ n < 128) (hn2 : n < 18446744073709551616) (w : World) (ih : ∀ w', Calls Tryz.prog 80 #[.int .u64 ((n / 128 : Nat) : Int)] w' (POwn w' (M.enc (n / 128)))) : Calls Tryz.prog 80 #[.int .u64 (n : Int)] w (POwn w (M.enc n)) := by
  obtain ⟨c, hc⟩ : ∃ c : UInt8, c = UInt8.ofNat (n % 128 + 128) := ⟨_, rfl⟩
  have HE := hid (show M.enc n = [c] ++ M.enc (n / 128) by rw [M.enc_big hn, ← hc]; rfl)
  have hcv : (n : Int) % 128 + 128 = (c.toNat : Int) := by rw [hc, M.ofNat_toNat _ (by omega)]; omega
  have HI := hid ih
  have h10 := M.len_enc10 (show n / 128 < 18446744073709551616 by omega)
  clear hc ih
  go_enter Tryz.func80, Tryz.ntmps80
  go_wp2_with (first
    | (go_at_call 80; refine (HI.out _).mono ?_; rintro e w1 ⟨v1, rfl, h1, h2⟩; obtain ⟨a1, cap1, rfl, hL1⟩ := Own.lies h1; have Q1 := hid (And.intro hL1 h2); clear h1 h2 hL1)
    | (at_builtin; refine append_bytes rfl _ _ rfl w.heap.size (.slice (some ⟨w.heap.size, 0, none⟩) 1 1) 1 (S [c]) rfl (own_adds (own_lit w c) Q1.out.2) a1 (M.enc (n / 128)) cap1 rfl Q1.out.1.non Q1.out.1.at_ (by omega) (by have := Q1.out.2.size; simp at this; omega) ?_; intro v2 w2 hown1 hgrow1 hne1; have Q2 := hid (And.intro hown1 (show Adds w w2 from Touch.grown (((Touch.refl _ w).alloc _).trans Q1.out.2) hgrow1 (fun j hj hlt => by simp [Value.ownBlock] at hj; omega))); clear hown1 hgrow1 hne1))
  go_ret
  rw [HE.out]
  refine ⟨_, rfl, ?_, Q2.out.2⟩
  rw [List.length_append, S, List.map_append]
  exact Q2.out.1
theorem ruintp_any (n : Nat) : ∀ (_ : n < 18446744073709551616) (w : World), Calls Tryz.prog 80 #[.int .u64 (n : Int)] w (POwn w (M.enc n)) := by
  induction n using Nat.strongRecOn with
  | _ n ih =>
    intro hn w
    by_cases h : n < 128
    · exact ruint_small n h w
    · exact ruint_big n h hn w (fun w' => ih (n / 128) (by omega) (by omega) w')

set_option maxRecDepth 100000 in
set_option maxHeartbeats 400000 in
theorem rtextp_any (ts : List UInt8) (ht : ts.length ≤ 1000000) (w : World) : Calls Tryz.prog 81 #[.string ⟨ts.toArray⟩] w (POwn w (M.enc ts.length ++ ts)) := by
  have H := hid (ruintp_any ts.length (by omega) w)
  have h10 := M.len_enc10 (show ts.length < 18446744073709551616 by omega)
  go_enter Tryz.func81, Tryz.ntmps81
  go_wp2_with (first
    | (go_at_call 80; refine H.out.mono ?_; rintro e w1 ⟨v1, rfl, h1, h2⟩; have Q1 := hid (And.intro h1 h2); obtain ⟨cap2, w2, hcv, hA2, hT2⟩ := str_bytes ts w1; have HY := hid (And.intro hA2 hT2); clear h1 h2 hA2 hT2)
    | (at_builtin; refine append_bytes rfl _ _ rfl w.heap.size _ (M.enc ts.length).length (S (M.enc ts.length)) rfl (own_adds Q1.out.1 HY.out.2) (some ⟨w1.heap.size, 0, none⟩) ts cap2 rfl (fun e => by cases e) HY.out.1 (by omega) (Q1.out.2.trans HY.out.2).size ?_; intro v3 w3 hown1 hgrow1 hne1; have Q3 := hid (And.intro hown1 (show Adds w w3 from Touch.grown (Q1.out.2.trans HY.out.2) hgrow1 (fun j hj hlt => by have := (Q1.out.1.lt j hj).1; omega))); clear hown1 hgrow1 hne1))
  go_ret
  refine ⟨_, rfl, ?_, Q3.out.2⟩
  rw [List.length_append, S, List.map_append]
  exact Q3.out.1
set_option maxRecDepth 100000 in
set_option maxHeartbeats 1000000 in
theorem rfixedp_hi (n : Nat) (hn : n < 18446744073709551616) (z : Int) (hz : 8 < z) (w : World) : Calls Tryz.prog 82 #[.int .u64 (n : Int), .int .i64 z] w (POwn w (M.fix n 8)) := by
  go_enter Tryz.func82, Tryz.ntmps82
  go_wp2
  go_loopw [0, 5, 6] (fun x v i wz => ∃ k : Nat, k ≤ 8 ∧ x = .int .u64 ((n / 256 ^ k : Nat) : Int) ∧ i = .int .i64 (k : Int) ∧ Hid (wz.ownsRow w.heap.size 5 1 v (M.fix n k).length (S (M.fix n k)) ∧ Adds w wz)) (fun _ _ i _ => 8 - (intOf i).toNat)
  case atStart => exact ⟨0, by omega, by simp, rfl, World.ownsRow_nil _ _ _ _, Touch.refl _ _⟩
  case round =>
    obtain ⟨k, hk, rfl, rfl, HI⟩ := hrel
    by_cases hlt : k < 8
    · obtain ⟨c, hc⟩ : ∃ c : UInt8, c = UInt8.ofNat (n / 256 ^ k % 256) := ⟨_, rfl⟩
      have HE := hid (show M.fix n (k + 1) = [c] ++ M.fix n k by rw [M.fix_head, ← hc]; rfl)
      have HD := hid (show n / 256 ^ (k + 1) = n / 256 ^ k / 256 by rw [Nat.div_div_eq_div_mul, Nat.pow_succ])
      have hcv : ((n / 256 ^ k : Nat) : Int) % 256 = (c.toNat : Int) := by rw [hc, M.ofNat_toNat _ (by omega)]; omega
      obtain ⟨a1, cap1, rfl, hL⟩ := Own.lies HI.out.1
      have HL := hid (hL.adds ((Touch.refl _ wr).alloc (.cells #[.int .u8 (c.toNat : Int)] 5)))
      have hkl := M.len_fix k n
      have hmlt : n / 256 ^ k < 18446744073709551616 := Nat.lt_of_le_of_lt (Nat.div_le_self _ _) hn
      clear hc hL
      generalize n / 256 ^ k = m at *
      go_wp2_with (first
        | (at_builtin; refine append_bytes rfl _ _ rfl w.heap.size (.slice (some ⟨wr.heap.size, 0, none⟩) 1 1) 1 (S [c]) rfl (own_base (own_lit wr c) HI.out.2.size) a1 (M.fix n k) cap1 (by rw [hkl]; rfl) HL.out.non HL.out.at_ (by omega) (by have := HI.out.2.size; simp; omega) ?_; intro v2 w2 hown1 hgrow1 hne1; have Q2 := hid (And.intro hown1 (show Adds w w2 from Touch.grown (HI.out.2.alloc _) hgrow1 (fun j hj hlt => by simp [Value.ownBlock] at hj; have := HI.out.2.size; omega))); clear hown1 hgrow1 hne1))
      go_roundw
      case rel =>
        refine ⟨k + 1, by omega, by rw [HD.out]; first | rfl | simp, by go_num, ?_, Q2.out.2⟩
        rw [HE.out, List.length_append, S, List.map_append]
        exact Q2.out.1
      case measure => simp [intOf]; omega
    · obtain rfl : k = 8 := by omega
      go_wp2
      go_ret
      exact ⟨_, rfl, HI.out.1, HI.out.2⟩
set_option maxRecDepth 100000 in
set_option maxHeartbeats 1000000 in
theorem rfixedp_mid (n q : Nat) (hn : n < 18446744073709551616) (hq : q ≤ 8) (w : World) : Calls Tryz.prog 82 #[.int .u64 (n : Int), .int .i64 (q : Int)] w (POwn w (M.fix n q)) := by
  go_enter Tryz.func82, Tryz.ntmps82
  go_wp2
  go_loopw [0, 5, 6] (fun x v i wz => ∃ k : Nat, k ≤ q ∧ x = .int .u64 ((n / 256 ^ k : Nat) : Int) ∧ i = .int .i64 (k : Int) ∧ Hid (wz.ownsRow w.heap.size 5 1 v (M.fix n k).length (S (M.fix n k)) ∧ Adds w wz)) (fun _ _ i _ => q - (intOf i).toNat)
  case atStart => exact ⟨0, by omega, by simp, rfl, World.ownsRow_nil _ _ _ _, Touch.refl _ _⟩
  case round =>
    obtain ⟨k, hk, rfl, rfl, HI⟩ := hrel
    by_cases hlt : k < q
    · obtain ⟨c, hc⟩ : ∃ c : UInt8, c = UInt8.ofNat (n / 256 ^ k % 256) := ⟨_, rfl⟩
      have HE := hid (show M.fix n (k + 1) = [c] ++ M.fix n k by rw [M.fix_head, ← hc]; rfl)
      have HD := hid (show n / 256 ^ (k + 1) = n / 256 ^ k / 256 by rw [Nat.div_div_eq_div_mul, Nat.pow_succ])
      have hcv : ((n / 256 ^ k : Nat) : Int) % 256 = (c.toNat : Int) := by rw [hc, M.ofNat_toNat _ (by omega)]; omega
      obtain ⟨a1, cap1, rfl, hL⟩ := Own.lies HI.out.1
      have HL := hid (hL.adds ((Touch.refl _ wr).alloc (.cells #[.int .u8 (c.toNat : Int)] 5)))
      have hkl := M.len_fix k n
      have hmlt : n / 256 ^ k < 18446744073709551616 := Nat.lt_of_le_of_lt (Nat.div_le_self _ _) hn
      clear hc hL
      generalize n / 256 ^ k = m at *
      go_wp2_with (first
        | (at_builtin; refine append_bytes rfl _ _ rfl w.heap.size (.slice (some ⟨wr.heap.size, 0, none⟩) 1 1) 1 (S [c]) rfl (own_base (own_lit wr c) HI.out.2.size) a1 (M.fix n k) cap1 (by rw [hkl]; rfl) HL.out.non HL.out.at_ (by omega) (by have := HI.out.2.size; simp; omega) ?_; intro v2 w2 hown1 hgrow1 hne1; have Q2 := hid (And.intro hown1 (show Adds w w2 from Touch.grown (HI.out.2.alloc _) hgrow1 (fun j hj hlt => by simp [Value.ownBlock] at hj; have := HI.out.2.size; omega))); clear hown1 hgrow1 hne1))
      go_roundw
      case rel =>
        refine ⟨k + 1, by omega, by rw [HD.out]; first | rfl | simp, by go_num, ?_, Q2.out.2⟩
        rw [HE.out, List.length_append, S, List.map_append]
        exact Q2.out.1
      case measure => simp [intOf]; omega
    · obtain rfl : k = q := by omega
      go_wp2
      go_ret
      exact ⟨_, rfl, HI.out.1, HI.out.2⟩
set_option maxRecDepth 100000 in
set_option maxHeartbeats 1000000 in
theorem rfixedp_lo (n : Nat) (z : Int) (hz : z < 0) (w : World) : Calls Tryz.prog 82 #[.int .u64 (n : Int), .int .i64 z] w (POwn w (M.fix n 0)) := by
  go_enter Tryz.func82, Tryz.ntmps82
  go_wp2
  go_loopw [5, 6] (fun v i wz => v = .slice none 0 0 ∧ i = .int .i64 0 ∧ wz = w) (fun _ _ _ => 0)
  case atStart => exact ⟨rfl, rfl, rfl⟩
  case round =>
    obtain ⟨rfl, rfl, rfl⟩ := hrel
    go_wp2
    go_ret
    exact ⟨_, rfl, World.ownsRow_nil _ _ _ _, Touch.refl _ _⟩
theorem rfixedp_any (n : Nat) (hn : n < 18446744073709551616) (z : Int) (w : World) : Calls Tryz.prog 82 #[.int .u64 (n : Int), .int .i64 z] w (POwn w (M.fix n (M.clamp z))) := by
  by_cases h0 : z < 0
  · rw [M.clamp, if_pos h0]; exact rfixedp_lo n z h0 w
  · by_cases h8 : 8 < z
    · rw [M.clamp, if_neg h0, if_pos h8]; exact rfixedp_hi n hn z h8 w
    · rw [M.clamp, if_neg h0, if_neg h8]
      have h := rfixedp_mid n z.toNat hn (by omega) w
      rw [Int.toNat_of_nonneg (by omega)] at h
      exact h
end Go.Proofs.YtllkplanjfnnmaaGreatDoor
