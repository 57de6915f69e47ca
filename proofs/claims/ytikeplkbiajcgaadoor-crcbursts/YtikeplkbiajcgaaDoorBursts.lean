/- The walk of CrcBursts. -/
import Derived.Test.YtikeplkbiajcgaaDoorOpen3
import Derived.Test.YtikeplkbiajcgaaDoorBurst
namespace Go.Proofs.YtikeplkbiajcgaaDoor
open Go.RowKit

/-- A row that begins with these bytes. -/
def RowB (w : World) (g : Nat) (cs : List UInt8) : Prop := ∃ cur, w.heap[g]? = some (.cells cur 5 (0, 0)) ∧ ∀ (j : Nat) (c : UInt8), cs[j]? = some c → cur[j]? = some (.int .u8 (c.toNat : Int))
theorem RowB.of_own {w : World} {base g n cap : Nat} {bs : List UInt8} (h : w.ownsRow base 5 1 (.slice (some ⟨g, 0, none⟩) n cap) n (S bs)) : RowB w g bs := by
  rcases h.2 with ⟨e, _⟩ | ⟨g', cap', cur, e, _, hg, _, _, _, ht⟩
  · cases e
  · obtain ⟨rfl, _⟩ : g = g' ∧ cap = cap' := by simpa using e
    refine ⟨cur, hg, fun j c hj => ?_⟩
    have h2 : (S bs)[j]? = some (.int .u8 (c.toNat : Int)) := by rw [S_get, hj]; rfl
    rw [← ht, List.getElem?_take] at h2
    split at h2
    · rw [← Array.getElem?_toList]; exact h2
    · cases h2
theorem RowB.at {w : World} {g : Nat} {cs : List UInt8} (h : RowB w g cs) : At w (some ⟨g, 0, none⟩) cs := by
  obtain ⟨cur, hc, hz⟩ := h
  exact fun j c hj => ⟨g, 0, rfl, by rw [cell_of_row w g _ cur 5 _ hc, Nat.zero_add]; exact hz j c hj⟩
theorem RowB.cell {w : World} {g : Nat} {cs : List UInt8} (h : RowB w g cs) {q : Nat} {c : UInt8} (hq : cs[q]? = some c) : w.cell? ⟨g, q, none⟩ = some (.int .u8 (c.toNat : Int)) ∧ w.frozen? ⟨g, q, none⟩ = false := by
  obtain ⟨cur, hc, hz⟩ := h
  exact ⟨by rw [cell_of_row w g q cur 5 _ hc]; exact hz q c hq, frozen_of_row w g q cur 5 hc⟩
theorem RowB.set {w : World} {g : Nat} {cs : List UInt8} (h : RowB w g cs) (q : Nat) (v : UInt8) (hq : q < cs.length) : RowB (w.setCell ⟨g, q, none⟩ (.int .u8 (v.toNat : Int))) g (cs.set q v) := by
  obtain ⟨cur, hc, hz⟩ := h
  refine ⟨_, heap_setCell_same w g q cur 5 _ hc, fun j c hj => ?_⟩
  rw [List.getElem?_set] at hj
  rw [Array.getElem?_setIfInBounds]
  have hs : q < cur.size := (Array.getElem?_eq_some_iff.1 (hz q cs[q] (List.getElem?_eq_getElem hq))).1
  by_cases e : q = j
  · subst e
    rw [if_pos rfl, if_pos hq] at hj
    obtain rfl : v = c := by simpa using hj
    rw [if_pos rfl, if_pos hs]
  · rw [if_neg e] at hj
    rw [if_neg e]
    exact hz j c hj
theorem flip_set (cs : List UInt8) (t : Nat) (c : UInt8) (hc : cs[t / 8]? = some c) : flip cs t = cs.set (t / 8) (c ^^^ UInt8.ofNat (2 ^ (t % 8))) := by
  apply List.ext_getElem?
  intro j
  unfold flip
  rw [List.getElem?_modify, List.getElem?_set]
  have hl := (List.getElem?_eq_some_iff.1 hc).1
  by_cases e : t / 8 = j
  · subst e; simp [hl, (List.getElem?_eq_some_iff.1 hc).2]
  · simp [e]
theorem bits_xor8 (a b : UInt8) : bits .xor .u8 (a.toNat : Int) (b.toNat : Int) = ((a ^^^ b).toNat : Int) := by
  show IntKind.u8.wrap ((BitVec.ofInt 8 (a.toNat : Int) ^^^ BitVec.ofInt 8 (b.toNat : Int)).toNat : Int) = _
  have e : ∀ c : UInt8, BitVec.ofInt 8 (c.toNat : Int) = c.toBitVec := by
    intro c
    rw [BitVec.ofInt_natCast]
    apply BitVec.eq_of_toNat_eq
    simp
  have h : (BitVec.ofInt 8 (a.toNat : Int) ^^^ BitVec.ofInt 8 (b.toNat : Int)).toNat = (a ^^^ b).toNat := by
    rw [e, e, UInt8.toNat_xor, BitVec.toNat_xor]; rfl
  rw [h, wrap_byte]
theorem bit_and (x : M.V) (i : Nat) : bits .and .u32 (N (x >>> i)) 1 = if x.getLsbD i then 1 else 0 := by
  have e := bits_and (x >>> i) 1#32
  rw [show N 1#32 = 1 by decide] at e
  rw [e, low_and, BitVec.getLsbD_ushiftRight, Nat.add_zero]
  cases x.getLsbD i <;> decide
theorem bit_pow (r : Nat) (h : r < 8) : (2 : Int) ^ r = ((UInt8.ofNat (2 ^ r)).toNat : Int) := by
  have : ∀ k : Fin 8, (2 : Int) ^ k.val = ((UInt8.ofNat (2 ^ k.val)).toNat : Int) := by decide
  exact this ⟨r, h⟩
theorem opened_sealed (bs : List UInt8) : opened (sealed bs) = bs ∧ openErr (sealed bs) = 0 := by
  have hl := len_sealed bs
  have ht : (sealed bs).take ((sealed bs).length - 4) = bs := by
    rw [hl, Nat.add_sub_cancel]; unfold sealed; rw [List.take_left]
  have h4 : ¬ (sealed bs).length < 4 := by omega
  constructor
  · rw [opened, if_neg h4, ht, if_pos rfl]
  · rw [openErr, if_neg h4, ht, if_pos rfl]
theorem opened_found {bs cs : List UInt8} {b : M.V} {k i : Nat} (h : Burst bs cs b k i true) : opened cs = [] ∧ openErr cs = 20 := by
  have hl := h.len
  have hf := h.found
  have h4 : ¬ cs.length < 4 := by omega
  exact ⟨by rw [opened, if_neg h4, if_neg hf], by rw [openErr, if_neg h4, if_neg hf]⟩

namespace Bts
/-- What the loop keeps. -/
def Inv (w1 : World) (gs : Nat) (bs : List UInt8) (x : M.V) (kk i : Nat) (t : Bool) (wr : World) : Prop := ∃ cs, Burst bs cs x kk i t ∧ RowB wr gs cs ∧ Adds w1 wr ∧ w1.heap.size ≤ gs
theorem rembits (a : Int) (m : Nat) (hm : 0 < m) : ∃ k : Nat, k < m ∧ (IntKind.u64.wrap a).tmod (m : Int) = (k : Int) ∧ IntKind.u64.wrap a % (m : Int) = (k : Int) := by
  have hu : 0 ≤ IntKind.u64.wrap a := by
    simp only [IntKind.wrap]
    exact Int.emod_nonneg _ (by decide)
  have e0 := Int.emod_nonneg (IntKind.u64.wrap a) (show (m : Int) ≠ 0 by omega)
  have e1 := Int.emod_lt_of_pos (IntKind.u64.wrap a) (show (0 : Int) < (m : Int) by omega)
  exact ⟨(IntKind.u64.wrap a % (m : Int)).toNat, by omega, by rw [Int.tmod_eq_emod_of_nonneg hu]; omega, by omega⟩

set_option maxRecDepth 100000 in
set_option maxHeartbeats 8000000 in
theorem walk (a : Option Addr) (bs : List UInt8) (cap : Nat) (at_ : Int) (x : M.V) (w : World) (hlen : bs.length ≤ 9223372036854775807) (hnil : a = none → cap = 0) (hT : Tab w) (hA : At w a bs) : Calls Tryd.prog 8 #[.slice a bs.length cap, .int .i64 at_, .int .u32 (N x)] w (Adding (.bool true) w) := by
  have HW := hid (works_any w hT)
  have HT := hid hT
  have HA := hid hA
  have HC := hid hnil
  clear hT hA hnil
  by_cases h : 2000 < bs.length
  · go_enter Tryd.func8, Tryd.ntmps8
    go_wp2_with (go_at_call 11; refine HW.out.mono ?_; rintro e w1 ⟨rfl, hA1⟩)
    go_ret
    exact ⟨rfl, hA1⟩
  · have HL : Hid (bs.length ≤ 2000) := show _ ≤ _ by omega
    obtain ⟨kk, hkk, e1, e2⟩ := rembits at_ (8 * (bs.length + 4)) (by omega)
    rw [show ((8 * (bs.length + 4) : Nat) : Int) = 8 * ((bs.length : Int) + 4) by omega] at e1 e2
    go_enter Tryd.func8, Tryd.ntmps8
    go_wp2_with (first
      | (go_at_call 11; refine HW.out.mono ?_; rintro e w1 ⟨rfl, hA1⟩; have HA1 := hid hA1; clear hA1)
      | (go_at_call 16; refine (seal_any a bs cap w1 (by have := HL.out; omega) HC.out (HT.out.adds HA1.out) (HA.out.adds HA1.out)).mono ?_; rintro e w2 ⟨gs, caps, rfl, hgs, howns, hA2⟩; have H2 := hid (And.intro hgs (And.intro howns hA2)); clear hgs howns hA2))
    have HI0 := hid (show Inv w1 gs bs x kk 0 false w2 from ⟨sealed bs, Burst.start bs x kk, RowB.of_own H2.out.2.1, H2.out.2.2, H2.out.1⟩)
    have HK : Hid (bs.length + 4 ≤ caps) := by
      rcases H2.out.2.1.2 with ⟨e, _⟩ | ⟨g', cap', cur, e, _, _, hn, _⟩
      · cases e
      · obtain ⟨_, rfl⟩ : gs = g' ∧ caps = cap' := by simpa using e
        exact hn
    clear H2 HC HW e1 e2
    go_loopw [9, 10] (fun tv iv wr => ∃ (i : Nat) (t : Bool), i ≤ 32 ∧ tv = .bool t ∧ iv = .int .i64 (i : Int) ∧ Hid (Inv w1 gs bs x kk i t wr)) (fun _ iv _ => 32 - (intOf iv).toNat)
    case atStart => exact ⟨0, false, by omega, rfl, rfl, HI0.out⟩
    case round =>
      obtain ⟨i, t, hi, rfl, rfl, HI⟩ := hrel
      by_cases hlt : i < 32 ∧ kk + i < 8 * (bs.length + 4)
      · obtain ⟨hi32, hki⟩ := hlt
        have h1 : N x / 2 ^ i = N (x >>> i) := N_shr x i
        have h2 := bit_and x i
        have hw : IntKind.u64.wrap (i : Int) = (i : Int) := by simp [IntKind.wrap, IntKind.bits, IntKind.signed]; omega
        cases hb : x.getLsbD i
        · rw [hb] at h2
          simp only [Bool.false_eq_true, if_false] at h2
          have HB := hid hb
          clear hb
          go_wp2
          go_roundw
          case rel =>
            obtain ⟨cs, q1, q2, q3, q4⟩ := HI.out
            exact ⟨i + 1, t, by omega, rfl, by go_num, cs, q1.skip HB.out, q2, q3, q4⟩
          case measure => simp [intOf]; omega
        · rw [hb] at h2
          simp only [if_true] at h2
          have HB := hid hb
          clear hb
          obtain ⟨cs, q1, q2, q3, q4⟩ := HI.out
          obtain ⟨q, hq⟩ : ∃ q, q = (kk + i) / 8 := ⟨_, rfl⟩
          obtain ⟨r, hr⟩ : ∃ r, r = (kk + i) % 8 := ⟨_, rfl⟩
          have hql : q < cs.length := by rw [q1.len]; omega
          obtain ⟨c, hc⟩ : ∃ c, cs[q]? = some c := ⟨cs[q], List.getElem?_eq_getElem hql⟩
          obtain ⟨hcell, hfr⟩ := q2.cell hc
          have t1 : ((kk : Int) + (i : Int)).tdiv 8 = (q : Int) := by rw [Int.tdiv_eq_ediv_of_nonneg (by omega)]; omega
          have t2 : ((kk : Int) + (i : Int)) / 8 = (q : Int) := by omega
          have t3 : ((kk : Int) + (i : Int)).tmod 8 = (r : Int) := by rw [Int.tmod_eq_emod_of_nonneg (by omega)]; omega
          have t4 : ((kk : Int) + (i : Int)) % 8 = (r : Int) := by omega
          have hr8 : r < 8 := by omega
          have hwr : IntKind.u64.wrap (r : Int) = (r : Int) := by simp [IntKind.wrap, IntKind.bits, IntKind.signed]; omega
          have p1 := bit_pow r hr8
          have HF := hid (flip_set cs (kk + i) c (by rw [← hq]; exact hc))
          rw [← hq, ← hr] at HF
          generalize UInt8.ofNat (2 ^ r) = d at p1 HF
          have p2 := wrap_byte d
          have p3 : (d.toNat : Int) % 256 = (d.toNat : Int) := by have := d.toNat_lt; omega
          have p4 := bits_xor8 c d
          have hq8 : q < bs.length + 4 := by rw [← q1.len]; exact hql
          have HN := hid (And.intro q1 (And.intro q2 (And.intro q3 q4)))
          have HQL := hid hql
          clear HI q1 q2 q3 q4 hq hr hc hql
          go_wp2
          go_roundw
          case rel =>
            obtain ⟨q1, q2, q3, q4⟩ := HN.out
            refine ⟨i + 1, true, by omega, rfl, by go_num, flip cs (kk + i), q1.turn hi32 HB.out hki, ?_, q3.setCell (fun hh => absurd q4 (Nat.not_le.2 hh)) _, q4⟩
            rw [HF.out]
            exact q2.set q (c ^^^ d) HQL.out
          case measure => simp [intOf]; omega
      · obtain ⟨cs, q1, q2, q3, q4⟩ := HI.out
        have HOP := hid (open_any (some ⟨gs, 0, none⟩) cs caps wr (by rw [q1.len]; have := HL.out; omega) (by rw [q1.len]; exact HK.out) (HT.out.adds (HA1.out.trans q3)) q2.at)
        rw [q1.len] at HOP
        have HADD := hid (HA1.out.trans q3)
        cases t
        · obtain rfl := q1.same rfl
          have HOP' := hid (show Calls Tryd.prog 17 #[.slice (some ⟨gs, 0, none⟩) (bs.length + 4) caps] wr (fun e w3 => ∃ ay cy, e = .returned (.tuple #[.slice ay bs.length cy, .int .i64 0]) ∧ (convert 22 9 (.slice ay bs.length cy)).run Tryd.prog w3 = .ok (.string ⟨bs.toArray⟩) w3 ∧ (convert 22 9 (.slice a bs.length cap)).run Tryd.prog w3 = .ok (.string ⟨bs.toArray⟩) w3 ∧ Hid (Adds w w3)) from HOP.out.mono (by
            rintro e w3 ⟨ay, cy, rfl, hown, hA3⟩
            rw [(opened_sealed bs).1] at hown
            refine ⟨ay, cy, by rw [(opened_sealed bs).1, (opened_sealed bs).2], conv_at w3 ay bs cy (At.owns hown), conv_at w3 a bs cap (HA.out.adds (HADD.out.trans hA3)), HADD.out.trans hA3⟩))
          generalize (⟨bs.toArray⟩ : ByteArray) = B at HOP'
          clear HOP HI q1 q2 q3 q4 HADD
          by_cases hl : i < 32
          · have hki : ¬ kk + i < 8 * (bs.length + 4) := fun hh => hlt ⟨hl, hh⟩
            clear hlt
            go_wp2_with (go_at_call 17; refine HOP'.out.mono ?_; rintro e w3 ⟨ay, cy, rfl, f1, f2, H3⟩)
            go_ret
            exact ⟨rfl, H3.out⟩
          · clear hlt
            go_wp2_with (go_at_call 17; refine HOP'.out.mono ?_; rintro e w3 ⟨ay, cy, rfl, f1, f2, H3⟩)
            go_ret
            exact ⟨rfl, H3.out⟩
        · have hf := opened_found q1
          have HOP' := hid (show Calls Tryd.prog 17 #[.slice (some ⟨gs, 0, none⟩) (bs.length + 4) caps] wr (fun e w3 => ∃ ay cy, e = .returned (.tuple #[.slice ay 0 cy, .int .i64 20]) ∧ Hid (Adds w w3)) from HOP.out.mono (by
            rintro e w3 ⟨ay, cy, rfl, hown, hA3⟩
            refine ⟨ay, cy, by rw [hf.1, hf.2]; rfl, HADD.out.trans hA3⟩))
          clear HOP HI q1 q2 q3 q4 HADD hf
          by_cases hl : i < 32
          · have hki : ¬ kk + i < 8 * (bs.length + 4) := fun hh => hlt ⟨hl, hh⟩
            clear hlt
            go_wp2_with (go_at_call 17; refine HOP'.out.mono ?_; rintro e w3 ⟨ay, cy, rfl, H3⟩)
            go_ret
            exact ⟨rfl, H3.out⟩
          · clear hlt
            go_wp2_with (go_at_call 17; refine HOP'.out.mono ?_; rintro e w3 ⟨ay, cy, rfl, H3⟩)
            go_ret
            exact ⟨rfl, H3.out⟩
end Bts
end Go.Proofs.YtikeplkbiajcgaaDoor
