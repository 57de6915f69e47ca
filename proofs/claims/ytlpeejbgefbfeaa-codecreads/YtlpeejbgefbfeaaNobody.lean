/- Readers that are nil, or that no call made: the walk. -/
import Derived.Test.YtlpeejbgefbfeaaWorks
namespace Go.Proofs.Ytlpeejbgefbfeaa
open Go.RowKit

/-- What a law's walk says. -/
abbrev PLaw (w : World) (e : Ending) (w' : World) : Prop := Adding (.bool true) w e w'
abbrev NB : M.St := ⟨1, []⟩
theorem nb21 {v : Value} {w : World} (n : Nat) (h : RD w v NB) : Calls Try.prog 21 #[v, .int .u64 (n : Int)] w (PR w v (.int .u64 0) NB) := uint_any n h
theorem nb23 {v : Value} {w : World} (h : RD w v NB) : Calls Try.prog 23 #[v] w (PR w v (.int .i64 0) NB) := int_any h
theorem nb25 {v : Value} {w : World} (z : Int) (hz : -9223372036854775808 ≤ z ∧ z ≤ 9223372036854775807) (h : RD w v NB) : Calls Try.prog 25 #[v, .int .i64 z] w (PR w v (.string ⟨#[]⟩) NB) := text_any z hz h
theorem nb28 {v : Value} {w : World} (h : RD w v NB) : Calls Try.prog 28 #[v] w (PR w v (.float .f64 0) NB) := by
  have h1 := float_any h
  rw [show M.floatR NB = (0, NB) from if_pos M.canon_zero] at h1
  exact h1
theorem nb30 {v : Value} {w : World} (z : Int) (h : RD w v NB) : Calls Try.prog 30 #[v, .int .i64 z] w (PR w v (.int .u64 0) NB) := fixed_any z h
theorem nb32 {v : Value} {w : World} (h : RD w v NB) : Calls Try.prog 32 #[v] w (PR w v (.int .u8 0) NB) := byte_any h
theorem nb33 {v : Value} {w : World} (h : RD w v NB) : Calls Try.prog 33 #[v] w fun e w' => e = .returned (.int .i64 0) ∧ w' = w := left_any h
theorem nb34 {v : Value} {w : World} (h : RD w v NB) : Calls Try.prog 34 #[v] w fun e w' => e = .returned (.int .i64 1) ∧ w' = w := err_any h
theorem nb35 {v : Value} {w : World} (h : RD w v NB) : Calls Try.prog 35 #[v] w fun e w' => e = .returned (.int .i64 1) ∧ w' = w := end_any h
theorem wrap64_in (z : Int) : -9223372036854775808 ≤ wrap64 z ∧ wrap64 z ≤ 9223372036854775807 := by unfold wrap64; omega
theorem zero_is : (FloatKind.f64.format.order 0 0 != some Ordering.eq) = false := by decide

/-- Nobody's reader in block g, the two in a row behind it. -/
def Going (w : World) (wr : World) : Prop := RD wr (Ptr w.heap.size) NB ∧ wr.cell? ⟨w.heap.size + 1, 0, none⟩ = some (.pointer none) ∧ wr.cell? ⟨w.heap.size + 1, 1, none⟩ = some (Ptr w.heap.size) ∧ Adds w wr
theorem Going.step {w w1 w2 : World} {v : Value} (h : Going w w1) (hv : v = .pointer none ∨ v = Ptr w.heap.size) (hR : RD w2 v NB) (hT : Touch (Own1 v) w1 w2) : Going w w2 := by
  obtain ⟨h1, h2, h3, h4⟩ := h
  have hn : ¬ Own1 v (w.heap.size + 1) := by rcases hv with rfl | rfl <;> simp [Own1]
  have hb : w2.heap[w.heap.size + 1]? = w1.heap[w.heap.size + 1]? := hT.block _ (World.block_lt_of_cell? w1 _ h2) hn
  refine ⟨?_, by rw [World.cell?_of_block (w := w1) hb]; exact h2, by rw [World.cell?_of_block (w := w1) hb]; exact h3, ?_⟩
  · rcases hv with rfl | rfl
    · exact h1.keep hT (fun k hk => by cases hk) (fun k _ hk => by cases hk)
    · exact hR
  · refine h4.then hT (fun i hi hk => ?_)
    rcases hv with rfl | rfl
    · cases hk
    · simp only [Own1, Ptr, Value.pointer.injEq, Option.some.injEq, Addr.mk.injEq] at hk; omega

set_option maxRecDepth 100000 in
set_option maxHeartbeats 400000 in
theorem nobody_walk (n : Nat) (w : World) : Calls Try.prog 5 #[.int .u64 (n : Int)] w (PLaw w) := by
  have hz := zero_is
  go_enter Try.func5, Try.ntmps5
  go_wp2
  go_loopw [9] (fun t wr => ∃ k : Nat, k ≤ 2 ∧ t = .int .i64 (k : Int) ∧ Hid (Going w wr)) (fun t _ => 2 - (intOf t).toNat)
  case atStart =>
    have hb : ((w.alloc (.cells #[.bool false, .int .i64 0, .slice none 0 0] 57)).alloc (.cells #[.pointer none, Ptr w.heap.size] 38)).heap[w.heap.size]? = some (.cells #[.bool false, .int .i64 0, .slice none 0 0] 57 (0, 0)) := by
      rw [Below.heap_alloc _ _ _ (by simp)]; exact heap_alloc_new w _
    have hc : ((w.alloc (.cells #[.bool false, .int .i64 0, .slice none 0 0] 57)).alloc (.cells #[.pointer none, Ptr w.heap.size] 38)).heap[w.heap.size + 1]? = some (.cells #[.pointer none, Ptr w.heap.size] 38 (0, 0)) := by
      have h := heap_alloc_new (w.alloc (.cells #[.bool false, .int .i64 0, .slice none 0 0] 57)) (.cells #[.pointer none, Ptr w.heap.size] 38)
      simpa using h
    exact ⟨0, by omega, rfl, .inr (.inl ⟨_, rfl, hb, rfl⟩), cellOf hc 0, cellOf hc 1, ((Touch.refl _ w).alloc _).alloc _⟩
  case round =>
    obtain ⟨k, hk, rfl, HG⟩ := hrel
    by_cases h2 : k = 2
    · subst h2
      go_wp2_with (go_at_call 19; refine (works_any _).mono ?_; rintro e w9 ⟨rfl, hA9⟩)
      go_ret
      exact ⟨rfl, HG.out.2.2.2.trans hA9⟩
    · have c0 := HG.out.2.1
      have c1 := HG.out.2.2.1
      by_cases h0 : k = 0
      · subst h0
        have R0 := hid (show RD wr (.pointer none) NB from .inl ⟨rfl, rfl⟩)
        go_wp2_with (first
          | (go_at_call 21; refine (nb21 n R0.out).mono ?_; rintro e w1 ⟨rfl, h1, h2⟩; have G1 := hid (And.intro h1 (HG.out.step (.inl rfl) h1 h2)); clear h1 h2)
          | (go_at_call 23; refine (nb23 G1.out.1).mono ?_; rintro e w2 ⟨rfl, h1, h2⟩; have G2 := hid (And.intro h1 (G1.out.2.step (.inl rfl) h1 h2)); clear h1 h2)
          | (go_at_call 25; refine (nb25 _ (wrap64_in n) G2.out.1).mono ?_; rintro e w3 ⟨rfl, h1, h2⟩; have G3 := hid (And.intro h1 (G2.out.2.step (.inl rfl) h1 h2)); clear h1 h2)
          | (go_at_call 28; refine (nb28 G3.out.1).mono ?_; rintro e w4 ⟨rfl, h1, h2⟩; have G4 := hid (And.intro h1 (G3.out.2.step (.inl rfl) h1 h2)); clear h1 h2)
          | (go_at_call 30; refine (nb30 _ G4.out.1).mono ?_; rintro e w5 ⟨rfl, h1, h2⟩; have G5 := hid (And.intro h1 (G4.out.2.step (.inl rfl) h1 h2)); clear h1 h2)
          | (go_at_call 32; refine (nb32 G5.out.1).mono ?_; rintro e w6 ⟨rfl, h1, h2⟩; have G6 := hid (And.intro h1 (G5.out.2.step (.inl rfl) h1 h2)); clear h1 h2)
          | (go_at_call 33; refine (nb33 G6.out.1).mono ?_; rintro e w' ⟨rfl, hw⟩; obtain rfl := hw.symm)
          | (go_at_call 34; refine (nb34 G6.out.1).mono ?_; rintro e w' ⟨rfl, hw⟩; obtain rfl := hw.symm)
          | (go_at_call 35; refine (nb35 G6.out.1).mono ?_; rintro e w' ⟨rfl, hw⟩; obtain rfl := hw.symm))
        go_roundw
        case rel => exact ⟨1, by omega, by go_num, G6.out.2⟩
        case measure => simp [intOf]
      · obtain rfl : k = 1 := by omega
        have R0 := hid HG.out.1
        go_wp2_with (first
          | (go_at_call 21; refine (nb21 n R0.out).mono ?_; rintro e w1 ⟨rfl, h1, h2⟩; have G1 := hid (And.intro h1 (HG.out.step (.inr rfl) h1 h2)); clear h1 h2)
          | (go_at_call 23; refine (nb23 G1.out.1).mono ?_; rintro e w2 ⟨rfl, h1, h2⟩; have G2 := hid (And.intro h1 (G1.out.2.step (.inr rfl) h1 h2)); clear h1 h2)
          | (go_at_call 25; refine (nb25 _ (wrap64_in n) G2.out.1).mono ?_; rintro e w3 ⟨rfl, h1, h2⟩; have G3 := hid (And.intro h1 (G2.out.2.step (.inr rfl) h1 h2)); clear h1 h2)
          | (go_at_call 28; refine (nb28 G3.out.1).mono ?_; rintro e w4 ⟨rfl, h1, h2⟩; have G4 := hid (And.intro h1 (G3.out.2.step (.inr rfl) h1 h2)); clear h1 h2)
          | (go_at_call 30; refine (nb30 _ G4.out.1).mono ?_; rintro e w5 ⟨rfl, h1, h2⟩; have G5 := hid (And.intro h1 (G4.out.2.step (.inr rfl) h1 h2)); clear h1 h2)
          | (go_at_call 32; refine (nb32 G5.out.1).mono ?_; rintro e w6 ⟨rfl, h1, h2⟩; have G6 := hid (And.intro h1 (G5.out.2.step (.inr rfl) h1 h2)); clear h1 h2)
          | (go_at_call 33; refine (nb33 G6.out.1).mono ?_; rintro e w' ⟨rfl, hw⟩; obtain rfl := hw.symm)
          | (go_at_call 34; refine (nb34 G6.out.1).mono ?_; rintro e w' ⟨rfl, hw⟩; obtain rfl := hw.symm)
          | (go_at_call 35; refine (nb35 G6.out.1).mono ?_; rintro e w' ⟨rfl, hw⟩; obtain rfl := hw.symm))
        go_roundw
        case rel => exact ⟨2, by omega, by go_num, G6.out.2⟩
        case measure => simp [intOf]
end Go.Proofs.Ytlpeejbgefbfeaa
