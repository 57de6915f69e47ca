/- A reader and the reference's, side by side: the walk. -/
import Derived.Test.YtlpeejbgefbfeaaNobody
import Derived.BigQuiet
import Derived.Deep.CutRange
namespace Go.Proofs.Ytlpeejbgefbfeaa
open Go.RowKit

/-- The two, in blocks p and r, in the same state; from w3 on only they have turned. -/
structure Play (w w3 wr : World) (p r : Nat) (s : M.St) : Prop where
  x : RD wr (Ptr p) s
  y : IsS wr r s
  tt : Touch (fun k => k = p ∨ k = r) w3 wr
  a3 : Adds w w3
  lowp : w.heap.size ≤ p
  lowr : w.heap.size ≤ r
  ne : p ≠ r
  coldp : Cold w3 p
  coldr : Cold w3 r
theorem Play.cold {w w3 wr : World} {p r : Nat} {s : M.St} (h : Play w w3 wr p r s) : ∀ k, k = p ∨ k = r → Cold w3 k := by
  rintro k (rfl | rfl)
  · exact h.coldp
  · exact h.coldr
theorem Play.adds {w w3 wr : World} {p r : Nat} {s : M.St} (h : Play w w3 wr p r s) : Adds w wr :=
  h.a3.then h.tt (fun i hi e => by have := h.lowp; have := h.lowr; omega)
/-- Behind the reader's call the reference's reader is as it was. -/
theorem Play.mid {w w3 wr w1 : World} {p r : Nat} {s : M.St} (h : Play w w3 wr p r s) (hT : Touch (Own1 (Ptr p)) wr w1) : IsS w1 r s :=
  h.y.keep hT h.x.cold (fun c => h.ne (by simpa [Own1, Ptr] using c))
/-- Both were called. -/
theorem Play.turn {w w3 wr w1 w2 : World} {p r : Nat} {s u : M.St} (h : Play w w3 wr p r s) (hx : RD w1 (Ptr p) u) (hT : Touch (Own1 (Ptr p)) wr w1) (hy : IsS w2 r u) (hT2 : Touch (Own1 (Ptr r)) w1 w2) : Play w w3 w2 p r u := by
  refine ⟨?_, hy, ?_, h.a3, h.lowp, h.lowr, h.ne, h.coldp, h.coldr⟩
  · exact hx.keep hT2 (h.mid hT).cold (fun k hk hk2 => h.ne (by simp only [Own1, Ptr, Value.pointer.injEq, Option.some.injEq, Addr.mk.injEq] at hk hk2; omega))
  · refine (h.tt.then (U := Own1 (Ptr p)) hT (fun i _ e => ?_)).then (U := Own1 (Ptr r)) hT2 (fun i _ e => ?_)
    · simp only [Own1, Ptr, Value.pointer.injEq, Option.some.injEq, Addr.mk.injEq] at e; omega
    · simp only [Own1, Ptr, Value.pointer.injEq, Option.some.injEq, Addr.mk.injEq] at e; omega
theorem Play.box {w w3 wr : World} {p r : Nat} {s : M.St} (h : Play w w3 wr p r s) : ∃ a cap, wr.cell? ⟨r, 0, none⟩ = some (.slice a s.l.length cap) ∧ wr.cell? ⟨r, 1, none⟩ = some (.int .i64 (s.e : Int)) := by
  obtain ⟨a, cap, hb, _⟩ := h.y.box
  exact ⟨a, cap, cellOf hb 0, cellOf hb 1⟩
theorem adds_drewN' (w : World) (n : Nat) : Adds w (w.drewN n) := ⟨rfl, rfl, rfl, Nat.le_refl _, fun _ _ _ => rfl⟩
theorem Play.drewN {w w3 wr : World} {p r : Nat} {s : M.St} (h : Play w w3 wr p r s) (n : Nat) : Play w w3 (wr.drewN n) p r s :=
  ⟨h.x.adds (adds_drewN' wr n), h.y.adds (adds_drewN' wr n), h.tt.trans ⟨rfl, rfl, rfl, Nat.le_refl _, fun _ _ _ => rfl⟩, h.a3, h.lowp, h.lowr, h.ne, h.coldp, h.coldr⟩

theorem text_str {v : Value} {s : M.St} {w : World} (n : Nat) (h : RD w v s) : Calls Try.prog 25 #[v, .int .i64 (wrap64 (n : Int))] w (PR w v (.string ⟨(M.textR (wrap64 (n : Int)) s).1.toArray⟩) (M.textR (wrap64 (n : Int)) s).2) := text_any _ (wrap64_in _) h
theorem rtext_str {p : Nat} {s : M.St} {w : World} (n : Nat) (h : IsS w p s) : Calls Try.prog 26 #[.pointer (some ⟨p, 0, none⟩), .int .i64 (wrap64 (n : Int))] w (PS w p (.string ⟨(M.textR (wrap64 (n : Int)) s).1.toArray⟩) (M.textR (wrap64 (n : Int)) s).2) := rtext_any _ (wrap64_in _) h

/-- Calls of a reader that came in: which, and its number. -/
def AsksAt (w : World) (a : Option Addr) (L : List (Int × Nat)) : Prop := ∀ (k : Nat) (x : Int × Nat), L[k]? = some x → ∃ b o, a = some ⟨b, o, none⟩ ∧ w.cell? ⟨b, o + k * 2, none⟩ = some (.int .i64 x.1) ∧ w.cell? ⟨b, o + k * 2 + 1, none⟩ = some (.int .u64 (x.2 : Int))

set_option maxRecDepth 100000 in
set_option maxHeartbeats 1000000 in
theorem reads_long (a : Option Addr) (n cap : Nat) (v : Value) (hn : 3000 < n) (w : World) : Calls Try.prog 4 #[.slice a n cap, v] w (PLaw w) := by
  have h1' : (3000 : Int) < (n : Int) := by omega
  go_enter Try.func4, Try.ntmps4
  go_wp2
  go_ret
  exact ⟨rfl, Touch.refl _ _⟩
set_option maxRecDepth 100000 in
set_option maxHeartbeats 2000000 in
theorem reads_walk (a : Option Addr) (bs : List UInt8) (cap : Nat) (al : Option Addr) (L : List (Int × Nat)) (capl : Nat) (w : World) (hs : bs.length ≤ 3000) (hcap : a = none → cap = 0) (hroom : bs.length ≤ cap) (hsp : ∀ ad, a = some ad → ad.spot = none ∧ ad.block < w.heap.size) (hA : At w a bs) (hL : AsksAt w al L) (hwf : ∀ x ∈ L, x.2 < 18446744073709551616) :
    Calls Try.prog 4 #[.slice a bs.length cap, .slice al L.length capl] w (PLaw w) := by
  have HO := hid (World.ownsRow_lit (base := w.heap.size) (e := 5) (size := 1) w #[] 0 (Nat.le_refl _) (by decide) rfl)
  have HA := hid (show Lies w w.heap.size a bs cap from ⟨hA, hroom, hcap, hsp⟩)
  have HS := hid hs
  have HL := hid (And.intro hL hwf)
  have hs' : ¬ ((3000 : Int) < (bs.length : Int)) := by omega
  clear hcap hroom hsp hA hs hL hwf
  go_enter Try.func4, Try.ntmps4
  go_wp2_with (first
    | (at_builtin; refine append_bytes rfl _ _ rfl w.heap.size (.slice (some ⟨w.heap.size, 0, none⟩) 0 0) 0 [] rfl HO.out a bs cap rfl HA.out.non (HA.out.at_.adds ((Touch.refl _ w).alloc _)) (by have := HS.out; omega) (by simp) ?_; intro v1 w1 hown1 hgrow1 hne1; rw [Nat.zero_add, List.nil_append] at hown1; obtain ⟨a1, cap1, rfl, hL1⟩ := Own.lies hown1; have Q1 := hid (And.intro hL1 (show Adds w w1 from Touch.grown ((Touch.refl _ w).alloc _) hgrow1 (fun j hj hlt => by simp [Value.ownBlock] at hj; omega))); clear hown1 hgrow1 hne1 hL1)
    | (go_at_call 20; refine (read_any a1 bs cap1 w1 (by have := HS.out; omega) Q1.out.1.non Q1.out.1.at_).mono ?_; rintro e w2 ⟨p, rfl, h1, h2, h3⟩; have Q2 := hid (And.intro h1 (And.intro h2 h3)); clear h1 h2 h3))
  have HP := hid (show Play w (w2.alloc (.cells #[.slice a bs.length cap, .int .i64 0] 42)) (w2.alloc (.cells #[.slice a bs.length cap, .int .i64 0] 42)) p w2.heap.size ⟨0, bs⟩ by
    have hA2 : Adds w w2 := Q1.out.2.trans Q2.out.2.2
    have hA3 : Adds w2 (w2.alloc (.cells #[.slice a bs.length cap, .int .i64 0] 42)) := (Touch.refl _ w2).alloc _
    have hx := Q2.out.2.1.adds hA3
    have hy : IsS (w2.alloc (.cells #[.slice a bs.length cap, .int .i64 0] 42)) w2.heap.size ⟨0, bs⟩ := by
      refine ⟨⟨a, cap, heap_alloc_new w2 _, ⟨HA.out.at_.adds (hA2.trans hA3), HA.out.room, HA.out.non, fun ad e => ?_⟩⟩, fun h => absurd rfl h, by have := HS.out; simp; omega, by simp⟩
      exact ⟨(HA.out.low ad e).1, by have := (HA.out.low ad e).2; have := hA2.size; omega⟩
    refine ⟨hx, hy, Touch.refl _ _, hA2.trans hA3, by have := Q1.out.2.size; have := Q2.out.1; omega, hA2.size, by have := Q2.out.2.1.lt; omega, hx.cold p rfl, hy.cold _ rfl⟩)
  have HC1 := hid (show At (w2.alloc (.cells #[.slice a bs.length cap, .int .i64 0] 42)) a1 bs from (Q1.out.1.at_.adds Q2.out.2.2).adds ((Touch.refl _ w2).alloc _))
  generalize w2.heap.size = r at *
  generalize w2.alloc (.cells #[.slice a bs.length cap, .int .i64 0] 42) = w3 at *
  clear Q1 Q2 HO HS
  go_loopw [8] (fun t8 wr => ∃ (k : Nat) (s : M.St), k ≤ L.length ∧ k ≤ 60 ∧ t8 = .int .i64 (k : Int) ∧ Hid (Play w w3 wr p r s)) (fun t8 _ => L.length - (intOf t8).toNat)
  case atStart => exact ⟨0, _, by omega, by omega, rfl, HP⟩
  case round =>
    clear HP
    obtain ⟨k, s, hk, hk60, rfl, HP⟩ := hrel
    by_cases hlt : k < L.length ∧ k < 60
    · obtain ⟨hlt1, hlt2⟩ := hlt
      obtain ⟨x, hx⟩ : ∃ x, L[k]? = some x := ⟨L[k], List.getElem?_eq_getElem hlt1⟩
      obtain ⟨b0, o0, rfl, c0, c1⟩ := HL.out.1 k x hx
      obtain ⟨kind, N⟩ := x
      rw [← World.cell?_of_block (HP.out.adds.block b0 (World.block_lt_of_cell? w _ c0) id)] at c0
      rw [← World.cell?_of_block (HP.out.adds.block b0 (World.block_lt_of_cell? w _ c1) id)] at c1
      simp only at c0 c1
      clear hx
      by_cases h0 : kind = 0
      · subst h0
        go_upto_region 24 with (first
          | (go_at_call 21; refine (uint_any N HP.out.x).mono ?_; rintro e wa ⟨rfl, h1, h2⟩; have M1 := hid (And.intro h1 h2); clear h1 h2)
          | (go_at_call 22; refine (ruint_any N (HP.out.mid M1.out.2)).mono ?_; rintro e wb ⟨rfl, h1, h2⟩; have PB := hid (HP.out.turn M1.out.1 M1.out.2 h1 h2); clear h1 h2))
        obtain ⟨ay, cy, d0, d1⟩ := PB.out.box
        clear c0 c1 HP M1
        generalize (M.uintR N s).2 = s' at *
        go_quiet (first
          | (go_at_call 33; refine Calls.quiet_of_same (left_any (PB.out.drewN _).x))
          | (go_at_call 34; refine Calls.quiet_of_same (err_any (PB.out.drewN _).x))
          | (go_at_call 35; refine Calls.quiet_of_same (end_any (PB.out.drewN _).x))
          | (go_at_call 36; refine Calls.quiet_of_same (rend_any (PB.out.drewN _).y)))
        go_wp2_with fail
        go_roundw
        case rel => exact ⟨k + 1, s', by omega, by omega, by go_num, PB.out.drewN _⟩
        case measure => simp [intOf]; omega
      · by_cases h1 : kind = 1
        · subst h1
          go_upto_region 24 with (first
            | (go_at_call 23; refine (int_any HP.out.x).mono ?_; rintro e wa ⟨rfl, h1, h2⟩; have M1 := hid (And.intro h1 h2); clear h1 h2)
            | (go_at_call 24; refine (rint_any (HP.out.mid M1.out.2)).mono ?_; rintro e wb ⟨rfl, h1, h2⟩; have PB := hid (HP.out.turn M1.out.1 M1.out.2 h1 h2); clear h1 h2))
          obtain ⟨ay, cy, d0, d1⟩ := PB.out.box
          clear c0 c1 HP M1
          generalize (M.intR s).2 = s' at *
          go_quiet (first
            | (go_at_call 33; refine Calls.quiet_of_same (left_any (PB.out.drewN _).x))
            | (go_at_call 34; refine Calls.quiet_of_same (err_any (PB.out.drewN _).x))
            | (go_at_call 35; refine Calls.quiet_of_same (end_any (PB.out.drewN _).x))
            | (go_at_call 36; refine Calls.quiet_of_same (rend_any (PB.out.drewN _).y)))
          go_wp2_with fail
          go_roundw
          case rel => exact ⟨k + 1, s', by omega, by omega, by go_num, PB.out.drewN _⟩
          case measure => simp [intOf]; omega
        · by_cases h2 : kind = 2
          · subst h2
            go_upto_region 24 with (first
              | (go_at_call 25; refine (text_str N HP.out.x).mono ?_; rintro e wa ⟨rfl, h1, h2⟩; have M1 := hid (And.intro h1 h2); clear h1 h2)
              | (go_at_call 26; refine (rtext_str N (HP.out.mid M1.out.2)).mono ?_; rintro e wb ⟨rfl, h1, h2⟩; have PB := hid (HP.out.turn M1.out.1 M1.out.2 h1 h2); clear h1 h2))
            obtain ⟨ay, cy, d0, d1⟩ := PB.out.box
            clear c0 c1 HP M1
            generalize (M.textR (wrap64 (N : Int)) s).2 = s' at *
            go_quiet (first
              | (go_at_call 33; refine Calls.quiet_of_same (left_any (PB.out.drewN _).x))
              | (go_at_call 34; refine Calls.quiet_of_same (err_any (PB.out.drewN _).x))
              | (go_at_call 35; refine Calls.quiet_of_same (end_any (PB.out.drewN _).x))
              | (go_at_call 36; refine Calls.quiet_of_same (rend_any (PB.out.drewN _).y)))
            go_wp2_with fail
            go_roundw
            case rel => exact ⟨k + 1, s', by omega, by omega, by go_num, PB.out.drewN _⟩
            case measure => simp [intOf]; omega
          · by_cases h3 : kind = 3
            · subst h3
              go_upto_region 24 with (first
                | (go_at_call 28; refine (float_any HP.out.x).mono ?_; rintro e wa ⟨rfl, h1, h2⟩; have M1 := hid (And.intro h1 h2); clear h1 h2)
                | (go_at_call 29; refine (rfloat_any (HP.out.mid M1.out.2)).mono ?_; rintro e wb ⟨rfl, h1, h2⟩; have PB := hid (HP.out.turn M1.out.1 M1.out.2 h1 h2); clear h1 h2)
                | (go_at_call 27; refine (bits_any _ _).mono ?_; rintro e w' ⟨rfl, hw⟩; obtain rfl := hw.symm))
              obtain ⟨ay, cy, d0, d1⟩ := PB.out.box
              clear c0 c1 HP M1
              generalize (M.floatR s).2 = s' at *
              go_quiet (first
                | (go_at_call 33; refine Calls.quiet_of_same (left_any (PB.out.drewN _).x))
                | (go_at_call 34; refine Calls.quiet_of_same (err_any (PB.out.drewN _).x))
                | (go_at_call 35; refine Calls.quiet_of_same (end_any (PB.out.drewN _).x))
                | (go_at_call 36; refine Calls.quiet_of_same (rend_any (PB.out.drewN _).y)))
              go_wp2_with fail
              go_roundw
              case rel => exact ⟨k + 1, s', by omega, by omega, by go_num, PB.out.drewN _⟩
              case measure => simp [intOf]; omega
            · by_cases h4 : kind = 4
              · subst h4
                go_upto_region 24 with (first
                  | (go_at_call 30; refine (fixed_any (wrap64 (N : Int)) HP.out.x).mono ?_; rintro e wa ⟨rfl, h1, h2⟩; have M1 := hid (And.intro h1 h2); clear h1 h2)
                  | (go_at_call 31; refine (rfixed_any (wrap64 (N : Int)) (HP.out.mid M1.out.2)).mono ?_; rintro e wb ⟨rfl, h1, h2⟩; have PB := hid (HP.out.turn M1.out.1 M1.out.2 h1 h2); clear h1 h2))
                obtain ⟨ay, cy, d0, d1⟩ := PB.out.box
                clear c0 c1 HP M1
                generalize (M.fixedR (wrap64 (N : Int)) s).2 = s' at *
                go_quiet (first
                  | (go_at_call 33; refine Calls.quiet_of_same (left_any (PB.out.drewN _).x))
                  | (go_at_call 34; refine Calls.quiet_of_same (err_any (PB.out.drewN _).x))
                  | (go_at_call 35; refine Calls.quiet_of_same (end_any (PB.out.drewN _).x))
                  | (go_at_call 36; refine Calls.quiet_of_same (rend_any (PB.out.drewN _).y)))
                go_wp2_with fail
                go_roundw
                case rel => exact ⟨k + 1, s', by omega, by omega, by go_num, PB.out.drewN _⟩
                case measure => simp [intOf]; omega
              · have hb : (M.fixedR 1 s).1 < 256 := by
                  have q1 := (M.fix_unfix _ (M.takeR 1 s).1 rfl).2
                  have q2 : 256 ^ (M.takeR 1 s).1.length ≤ 256 ^ 1 := Nat.pow_le_pow_right (by decide) (M.takeR_len 1 s)
                  exact Nat.lt_of_lt_of_le q1 (by simpa using q2)
                go_upto_region 24 with (first
                  | (go_at_call 32; refine (byte_any HP.out.x).mono ?_; rintro e wa ⟨rfl, h1, h2⟩; have M1 := hid (And.intro h1 h2); clear h1 h2)
                  | (go_at_call 31; refine (rfixed_any 1 (HP.out.mid M1.out.2)).mono ?_; rintro e wb ⟨rfl, h1, h2⟩; have PB := hid (HP.out.turn M1.out.1 M1.out.2 h1 h2); clear h1 h2))
                obtain ⟨ay, cy, d0, d1⟩ := PB.out.box
                clear c0 c1 HP M1
                generalize (M.fixedR 1 s).2 = s' at *
                go_quiet (first
                  | (go_at_call 33; refine Calls.quiet_of_same (left_any (PB.out.drewN _).x))
                  | (go_at_call 34; refine Calls.quiet_of_same (err_any (PB.out.drewN _).x))
                  | (go_at_call 35; refine Calls.quiet_of_same (end_any (PB.out.drewN _).x))
                  | (go_at_call 36; refine Calls.quiet_of_same (rend_any (PB.out.drewN _).y)))
                go_wp2_with fail
                go_roundw
                case rel => exact ⟨k + 1, s', by omega, by omega, by go_num, PB.out.drewN _⟩
                case measure => simp [intOf]; omega
    · have hcv1 := conv_at wr a1 bs cap1 (HC1.out.cold HP.out.tt HP.out.cold)
      have hcv2 := conv_at wr a bs cap (HA.out.at_.adds HP.out.adds)
      by_cases hkl : k < L.length
      · obtain rfl : k = 60 := by omega
        go_wp2_with (first | (go_at_call 19; refine (works_any _).mono ?_; rintro e wz ⟨rfl, h1⟩; have AZ := hid (HP.out.adds.trans h1); clear h1))
        go_ret
        exact ⟨rfl, AZ.out⟩
      · have hkl' : ¬ ((k : Int) < (L.length : Int)) := by omega
        go_wp2_with (first | (go_at_call 19; refine (works_any _).mono ?_; rintro e wz ⟨rfl, h1⟩; have AZ := hid (HP.out.adds.trans h1); clear h1))
        go_ret
        exact ⟨rfl, AZ.out⟩
end Go.Proofs.Ytlpeejbgefbfeaa
