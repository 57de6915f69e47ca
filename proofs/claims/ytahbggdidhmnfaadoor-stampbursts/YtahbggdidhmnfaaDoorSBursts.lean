/- The walk of StampBursts. -/
import Derived.Test.YtahbggdidhmnfaaDoorWorks
namespace Go.Proofs.YtahbggdidhmnfaaDoor
open Go.RowKit

namespace SBts
/-- What the loop keeps. -/
def Inv (w1 : World) (g n : Nat) (b : List UInt8) (x : C.V) (kk i : Nat) (t : Bool) (wr : World) : Prop := ∃ cs, Burst (M.head n 7 b) cs x kk i t ∧ Sec wr g (cs ++ M.fix n 8) ∧ Adds w1 wr ∧ w1.heap.size ≤ g

set_option maxRecDepth 100000 in
set_option maxHeartbeats 8000000 in
theorem walk_bad (n : Nat) (a : Option Addr) (b : List UInt8) (cap : Nat) (at_ : Int) (x : C.V) (w : World) (hT : Tab w) (h : n = 0 ∨ 233 < b.length) : Calls Tryd.prog 7 #[.int .u64 (n : Int), .slice a b.length cap, .int .i64 at_, .int .u32 (N x)] w (Adding (.bool true) w) := by
  have HW := hid (works_any w hT)
  by_cases h0 : n = 0
  · have HB := hid (fun w' => swrap_inv n 7 a b.length cap w' (.inl h0))
    clear hT h h0
    go_enter Tryd.func7, Tryd.ntmps7
    go_wp2_with (first
      | (go_at_call 10; refine HW.out.mono ?_; rintro e w1 ⟨rfl, hA⟩; have A1 := hid hA; clear hA)
      | (go_at_call 8; refine (HB.out _).mono ?_; rintro e _ ⟨rfl, hw⟩; rw [hw]; clear hw))
    go_ret
    exact ⟨rfl, A1.out⟩
  · have HB := hid (fun w' => swrap_big n 7 a b.length cap w' h0 (by decide) (h.resolve_left h0))
    clear hT h h0
    go_enter Tryd.func7, Tryd.ntmps7
    go_wp2_with (first
      | (go_at_call 10; refine HW.out.mono ?_; rintro e w1 ⟨rfl, hA⟩; have A1 := hid hA; clear hA)
      | (go_at_call 8; refine (HB.out _).mono ?_; rintro e _ ⟨rfl, hw⟩; rw [hw]; clear hw))
    go_ret
    exact ⟨rfl, A1.out⟩

set_option maxRecDepth 100000 in
set_option maxHeartbeats 8000000 in
theorem walk_ok (n : Nat) (hn2 : n < 18446744073709551616) (a : Option Addr) (b : List UInt8) (cap : Nat) (at_ : Int) (x : C.V) (w : World) (hnil : a = none → cap = 0) (hT : Tab w) (hA : At w a b) (h0 : n ≠ 0) (hl : b.length ≤ 233) : Calls Tryd.prog 7 #[.int .u64 (n : Int), .slice a b.length cap, .int .i64 at_, .int .u32 (N x)] w (Adding (.bool true) w) := by
  have HW := hid (works_any w hT)
  have HT := hid hT
  have HA := hid hA
  have HL := hid (M.len_head n 7 b hl)
  have HB := hid (fun w' (hw : Adds w w') => (show Calls Tryd.prog 8 #[.int .u64 (n : Int), .int .u8 7, .slice a b.length cap] w' (PWrap w' (M.sector n 7 b)) from swrap_ok n 7 a b cap w' h0 (by decide) hl hnil (hA.adds hw) (hT.adds hw)))
  have HO := hid (M.sector_opens n 7 b (by omega) hn2 (by decide) hl)
  have HLS := hid (M.len_sector n 7 b hl)
  obtain ⟨kk, hkk, e1, e2⟩ := Bts.rembits at_ 1984 (by omega)
  have e1' : (IntKind.u64.wrap at_).tmod 1984 = (kk : Int) := e1
  have e2' : IntKind.u64.wrap at_ % 1984 = (kk : Int) := e2
  have hlb : b.length ≤ 233 := hl
  clear hT hA hnil e1 e2 h0 hn2 hl
  go_enter Tryd.func7, Tryd.ntmps7
  go_wp2_with (first
    | (go_at_call 10; refine HW.out.mono ?_; rintro e w1 ⟨rfl, hA⟩; have A1 := hid hA; clear hA)
    | (go_at_call 8; refine (HB.out w1 A1.out).mono ?_; rintro e w2 ⟨g, rfl, hg, hS, hA⟩; have S2 := hid (And.intro hg (And.intro hS hA)); clear hg hS hA))
  have HI0 := hid (show Inv w1 g n b x kk 0 false w2 from ⟨sealed (M.head n 7 b), Burst.start _ x kk, S2.out.2.1, S2.out.2.2, S2.out.1⟩)
  clear HB HW e1' e2' S2
  go_loopw [12, 13] (fun tv iv wr => ∃ (i : Nat) (t : Bool), i ≤ 32 ∧ tv = .bool t ∧ iv = .int .i64 (i : Int) ∧ Hid (Inv w1 g n b x kk i t wr)) (fun _ iv _ => 32 - (intOf iv).toNat)
  case atStart => exact ⟨0, false, by omega, rfl, rfl, HI0.out⟩
  case round =>
    obtain ⟨i, t, hi, rfl, rfl, HI⟩ := hrel
    by_cases hlt : i < 32 ∧ kk + i < 1984
    · obtain ⟨hi32, hki⟩ := hlt
      have h1 : N x / 2 ^ i = N (x >>> i) := N_shr x i
      have h2 := bit_and x i
      have hw : IntKind.u64.wrap (i : Int) = (i : Int) := by simp [IntKind.wrap, IntKind.bits, IntKind.signed]; omega
      cases hb : x.getLsbD i
      · rw [hb] at h2
        simp only [Bool.false_eq_true, if_false] at h2
        have HB := hid hb
        clear hb
        go_wp2
        go_roundw
        case rel =>
          obtain ⟨cs, q1, q2, q3, q4⟩ := HI.out
          exact ⟨i + 1, t, by omega, rfl, by go_num, cs, q1.skip HB.out, q2, q3, q4⟩
        case measure => simp [intOf]; omega
      · rw [hb] at h2
        simp only [if_true] at h2
        have HB := hid hb
        clear hb
        obtain ⟨cs, q1, q2, q3, q4⟩ := HI.out
        have hcl : cs.length = 248 := by rw [q1.len, HL.out]
        obtain ⟨q, hq⟩ : ∃ q, q = (kk + i) / 8 := ⟨_, rfl⟩
        obtain ⟨r, hr⟩ : ∃ r, r = (kk + i) % 8 := ⟨_, rfl⟩
        have hql : q < 248 := by omega
        obtain ⟨c, hc⟩ : ∃ c, (cs ++ M.fix n 8)[q]? = some c := ⟨_, List.getElem?_eq_getElem (by rw [q2.len]; omega)⟩
        have hcell := q2.cell hc
        have hfr := q2.frozen q
        have t1 : ((kk : Int) + (i : Int)).tdiv 8 = (q : Int) := by rw [Int.tdiv_eq_ediv_of_nonneg (by omega)]; omega
        have t2 : ((kk : Int) + (i : Int)) / 8 = (q : Int) := by omega
        have t3 : ((kk : Int) + (i : Int)).tmod 8 = (r : Int) := by rw [Int.tmod_eq_emod_of_nonneg (by omega)]; omega
        have t4 : ((kk : Int) + (i : Int)) % 8 = (r : Int) := by omega
        have hr8 : r < 8 := by omega
        have hwr : IntKind.u64.wrap (r : Int) = (r : Int) := by simp [IntKind.wrap, IntKind.bits, IntKind.signed]; omega
        have p1 := bit_pow r hr8
        have hF := flip_set (cs ++ M.fix n 8) (kk + i) c (by rw [← hq]; exact hc)
        rw [flip_app cs (M.fix n 8) (kk + i) (by rw [hcl]; omega), ← hq, ← hr] at hF
        have HF := hid hF
        clear hF
        generalize UInt8.ofNat (2 ^ r) = d at p1 HF
        have p2 := wrap_byte d
        have p3 : (d.toNat : Int) % 256 = (d.toNat : Int) := by have := d.toNat_lt; omega
        have p4 := bits_xor8 c d
        have HN := hid (And.intro q1 (And.intro q2 (And.intro q3 q4)))
        clear HI q1 q2 q3 q4 hq hr hc hcl
        go_wp2
        go_roundw
        case rel =>
          obtain ⟨q1, q2, q3, q4⟩ := HN.out
          refine ⟨i + 1, true, by omega, rfl, by go_num, flip cs (kk + i), q1.turn hi32 HB.out (by rw [HL.out]; exact hki), ?_, q3.setCell (fun hh => absurd q4 (Nat.not_le.2 hh)) _, q4⟩
          rw [HF.out]
          exact q2.set q (c ^^^ d)
        case measure => simp [intOf]; omega
    · obtain ⟨cs, q1, q2, q3, q4⟩ := HI.out
      have hcl : cs.length = 248 := by rw [q1.len, HL.out]
      have HADD := hid (A1.out.trans q3)
      cases t
      · obtain rfl := q1.same rfl
        have HOP := hid (show Calls Tryd.prog 11 #[.slice (some ⟨g, 0, none⟩) 256 256] wr (fun e w3 => ∃ av cv, e = .returned (.tuple #[.int .u64 (n : Int), .int .u8 7, .slice av b.length cv, .int .i64 0]) ∧ (convert 23 9 (.slice av b.length cv)).run Tryd.prog w3 = .ok (.string ⟨b.toArray⟩) w3 ∧ (convert 23 9 (.slice a b.length cap)).run Tryd.prog w3 = .ok (.string ⟨b.toArray⟩) w3 ∧ Hid (Adds w w3)) from
          (sopen_is (some ⟨g, 0, none⟩) (M.sector n 7 b) 256 256 wr n 7 b 0 HLS.out (fun e => by cases e) q2.at (HT.out.adds HADD.out) HO.out.2.1 HO.out.2.2.1 HO.out.2.2.2 HO.out.1).mono (by
            rintro e w3 ⟨av, cv, rfl, hB, hA3⟩
            exact ⟨av, cv, rfl, conv_at w3 av b cv hB.out.at, conv_at w3 a b cap (HA.out.adds (HADD.out.trans hA3)), HADD.out.trans hA3⟩))
        generalize (⟨b.toArray⟩ : ByteArray) = B at HOP
        clear HI q1 q2 q3 q4 HADD hcl
        by_cases hl : i < 32
        · have hki : ¬ kk + i < 1984 := fun hh => hlt ⟨hl, hh⟩
          clear hlt
          go_wp2_with (go_at_call 11; refine HOP.out.mono ?_; rintro e w3 ⟨av, cv, rfl, f1, f2, H3⟩)
          go_ret
          exact ⟨rfl, H3.out⟩
        · clear hlt
          go_wp2_with (go_at_call 11; refine HOP.out.mono ?_; rintro e w3 ⟨av, cv, rfl, f1, f2, H3⟩)
          go_ret
          exact ⟨rfl, H3.out⟩
      · have hne := M.burst_err (f := M.fix n 8) hcl (opened_found q1).2
        obtain ⟨z, hz⟩ : ∃ z, M.oErr (cs ++ M.fix n 8) = z := ⟨_, rfl⟩
        rw [hz] at hne
        obtain ⟨r1, r2, r3⟩ := M.refused (b := cs ++ M.fix n 8) (by rw [hz]; exact hne)
        have HOP := hid (show Calls Tryd.prog 11 #[.slice (some ⟨g, 0, none⟩) 256 256] wr (fun e w3 => ∃ av cv, e = .returned (.tuple #[.int .u64 0, .int .u8 0, .slice av 0 cv, .int .i64 (z : Int)]) ∧ Hid (Adds w w3)) from
          (sopen_is (some ⟨g, 0, none⟩) (cs ++ M.fix n 8) 256 256 wr 0 0 [] z q2.len (fun e => by cases e) q2.at (HT.out.adds HADD.out) r1 r2 r3 hz).mono (by
            rintro e w3 ⟨av, cv, rfl, hB, hA3⟩
            exact ⟨av, cv, rfl, HADD.out.trans hA3⟩))
        have hz0 : ((z : Int) != 0) = true := bne_iff_ne.2 (by omega)
        clear HI q1 q2 q3 q4 HADD hcl hne hz r1 r2 r3
        by_cases hl : i < 32
        · have hki : ¬ kk + i < 1984 := fun hh => hlt ⟨hl, hh⟩
          clear hlt
          go_wp2_with (go_at_call 11; refine HOP.out.mono ?_; rintro e w3 ⟨av, cv, rfl, H3⟩)
          go_ret
          exact ⟨rfl, H3.out⟩
        · clear hlt
          go_wp2_with (go_at_call 11; refine HOP.out.mono ?_; rintro e w3 ⟨av, cv, rfl, H3⟩)
          go_ret
          exact ⟨rfl, H3.out⟩

theorem walk (n : Nat) (hn2 : n < 18446744073709551616) (a : Option Addr) (b : List UInt8) (cap : Nat) (at_ : Int) (x : C.V) (w : World) (hnil : a = none → cap = 0) (hT : Tab w) (hA : At w a b) : Calls Tryd.prog 7 #[.int .u64 (n : Int), .slice a b.length cap, .int .i64 at_, .int .u32 (N x)] w (Adding (.bool true) w) := by
  by_cases h : n = 0 ∨ 233 < b.length
  · exact walk_bad n a b cap at_ x w hT h
  · exact walk_ok n hn2 a b cap at_ x w hnil hT hA (fun c => h (.inl c)) (Nat.not_lt.1 (fun c => h (.inr c)))
end SBts
end Go.Proofs.YtahbggdidhmnfaaDoor
