/- Proved: whatever old, young and at are, the law DiskTears returns true, and each argument reads behind the call as it read before; no condition. -/
import Derived.Test.YtjjknckcodhnmaaRows
import Derived.Test.YtjjknckcodhnmaaSync
import Derived.Test.YtjjknckcodhnmaaUn
import Derived.WalkKit
import Derived.ProofKit
import Derived.OpenShut
namespace Go.Proofs.Ytjjknckcodhnmaa
open Go.ChangeShapes Go.WideShapes Go.ChangeAt Go.RowKit

namespace Tears
/-- The disk behind the first write and the Sync, and behind the second write. -/
def Ds (a : UInt8) : St := ((St.new 2).wrote 1 (sec a)).synced
def D2 (a b : UInt8) : St := (Ds a).wrote 1 (sec b)

theorem ds_H (a : UInt8) : (Ds a).H 1 = sec a := by
  show syncH (St.new 2).H [(1, sec a)] 1 = _
  simp [syncH, upd]
theorem d2_torn (a b : UInt8) (n : Int) : ((D2 a b).lost [] 0 n).H 1 = (sec b).take n.toNat ++ (sec a).drop n.toNat := by
  show loseTo (D2 a b).H (D2 a b).W [] 0 n (D2 a b).W.length 1 = _
  rw [show (D2 a b).W.length = 0 + 1 from rfl, lose_torn (W := (D2 a b).W) (x := (1, sec b)) (torn := 0) (k := 0) rfl rfl]
  show upd _ 1 _ 1 = _
  rw [upd, if_pos rfl]
  show _ ++ List.drop _ ((Ds a).H 1) = _
  rw [ds_H]
theorem torn_get (a b : UInt8) (n : Int) (h0 : 0 ≤ n) (h1 : n ≤ 256) (j : Nat) (hj : j < 256) : ((sec b).take n.toNat ++ (sec a).drop n.toNat)[j]? = some (if (j : Int) < n then b else a) := by
  by_cases h : (j : Int) < n
  · rw [List.getElem?_append_left (by rw [List.length_take, sec_len]; omega), List.getElem?_take, if_pos (by omega), sec_get b j hj, if_pos h]
  · rw [List.getElem?_append_right (by rw [List.length_take, sec_len]; omega), List.length_take, sec_len, List.getElem?_drop, show n.toNat + (j - min n.toNat 256) = j by omega, sec_get a j hj, if_neg h]

set_option maxRecDepth 100000 in
set_option maxHeartbeats 2000000 in
theorem walk (a b : UInt8) (n : Int) (w : World) : Calls Try.prog 6 #[.int .u8 (a.toNat : Int), .int .u8 (b.toNat : Int), .int .i64 n] w (PLaw w) := by
  go_enter Try.func6, Try.ntmps6
  go_wp2_with (first
    | (go_at_call 8; refine (new_yes 2 w w.heap.size (Nat.le_refl _) (by decide) (by decide)).mono ?_; rintro e w1 ⟨p, hb, rfl, hp, hhb, hd1, hA1⟩)
    | (go_at_call 10; refine (works_any _).mono ?_; rintro e w2 ⟨rfl, hA2⟩))
  refine (filled_any a w2).mono ?_
  rintro e w3 ⟨g3, rfl, hg3, hB3, hA3⟩
  have hd3 := hd1.adds (hA2.trans hA3)
  have hw3 : Adds w w3 := hA1.trans (hA2.trans hA3)
  have HB3 := hid hB3
  have HD3 := hid hd3
  clear hB3 hd3 hd1 hA1 hA2 hA3
  go_wp2_with fail
  refine (write_ok w.heap.size p hb _ (St.new 2) 1 g3 0 256 (sec a) w3 HD3.out (by decide) (by decide) (by decide) (sec_len a) (bytes_range HB3.out) (by decide) (by decide) (by decide) (by decide)).mono ?_
  rintro e w4 ⟨wv4, rfl, hd4, hT4⟩
  have hw4 : Adds w w4 := adds_write hw3 HD3.out hT4
  have HD4 := hid hd4
  clear hd4 hT4 HD3 HB3 hw3
  go_wp2_with fail
  refine (sync_ok w.heap.size p hb wv4 ((St.new 2).wrote 1 (sec a)) w4 HD4.out (show 1 ≤ 1000 by decide) (show (0 : Int) < 2 by decide) (show less (-1) ≠ 0 by decide) (show (0 : Int) ≤ 0 + 1 by decide) (show (0 : Int) + 1 < 1000000 by decide) (show -1 ≤ less (-1) by decide) (show less (-1) ≤ 9223372036854775807 by decide)).mono ?_
  rintro e w5 ⟨rfl, hd5, hT5⟩
  have hw5 : Adds w w5 := adds_sync hw4 HD4.out hT5
  have HD5 : Hid (IsDisk w5 w.heap.size p hb (.slice none 0 0) (Ds a)) := hd5
  clear hd5 hT5 HD4 hw4
  go_wp2_with fail
  refine (filled_any b w5).mono ?_
  rintro e w6 ⟨g6, rfl, hg6, hB6, hA6⟩
  have hw6 : Adds w w6 := hw5.trans hA6
  have HD6 := hid (HD5.out.adds hA6)
  have HB6 := hid hB6
  clear hB6 hA6 HD5 hw5
  go_wp2_with fail
  refine (write_ok w.heap.size p hb _ (Ds a) 1 g6 0 256 (sec b) w6 HD6.out (show 0 ≤ 1000 by decide) (show (0 : Int) ≤ 1 ∧ (1 : Int) < 2 by decide) (show less (less (-1)) ≠ 0 by decide) (sec_len b) (bytes_range HB6.out) (show (0 : Int) ≤ 0 + 1 + 1 by decide) (show (0 : Int) + 1 + 1 < 1000000 by decide) (show -1 ≤ less (less (-1)) by decide) (show less (less (-1)) ≤ 9223372036854775807 by decide)).mono ?_
  rintro e w7 ⟨wv7, rfl, hd7, hT7⟩
  have hw7 : Adds w w7 := adds_write hw6 HD6.out hT7
  have HD7 : Hid (IsDisk w7 w.heap.size p hb wv7 (D2 a b)) := hd7
  clear hd7 hT7 HD6 HB6 hw6
  go_wp2_with fail
  by_cases hn : 0 ≤ n ∧ n ≤ 256
  · have L1 := hid (lose_ok w.heap.size p hb wv7 (D2 a b) none 0 [] 0 n w7 HD7.out (show 1 ≤ 1000 by decide) (show (0 : Int) < 2 by decide) hw7.size (kept_nil _ _) (by decide) (fun _ => hn))
    unfold lossV at L1
    simp only [List.length_nil] at L1
    refine L1.out.mono ?_
    rintro e w8 ⟨p8, h8, rfl, hp8, hh8, hd8, hA8⟩
    have HD8 := hid hd8
    have HN := hid hn
    have hn0 : ¬ n < 0 := by omega
    have hn1 : ¬ 256 < n := by omega
    clear L1 hd8 hn
    go_wp2_with fail
    refine (read_ok w.heap.size p8 h8 _ _ 1 w8 HD8.out (show 0 ≤ 1000 by decide) (show (0 : Int) ≤ 1 ∧ (1 : Int) < 2 by decide) (show (-1 : Int) ≠ 0 by decide)).mono ?_
    intro e w9 hr9
    obtain ⟨gx, cx, rfl, hcx, _, hgx, hA9⟩ := hr9.reads
    have hget := hid (show ∀ j, j < 256 → w9.cell? ⟨gx, j, none⟩ = some (.int .u8 ((if (j : Int) < n then b else a).toNat : Int)) from fun j hj => hcx j _ (by
      show (hasOf _ [] 1)[j]? = _
      rw [hasOf_none (by simp), d2_torn]
      exact torn_get a b n HN.out.1 HN.out.2 j hj))
    have hw9 : Adds w w9 := (hw7.trans hA8).trans hA9
    clear hcx hr9 HD8
    go_wp2_with fail
    go_loop [87] (fun t => ∃ k : Nat, k ≤ 256 ∧ t = .int .i64 k) (fun t => 256 - (intOf t).toNat)
    case atStart => exact ⟨0, by omega, rfl⟩
    case round =>
      obtain ⟨k, hk, rfl⟩ := hrel
      by_cases hlt : k < 256
      · have hc := hget.out k hlt
        by_cases hkn : (k : Int) < n
        · rw [if_pos hkn] at hc
          go_wp2
          go_round
          case rel => exact ⟨k + 1, by omega, by go_num⟩
          case measure => simp [intOf]; omega
        · rw [if_neg hkn] at hc
          go_wp2
          go_round
          case rel => exact ⟨k + 1, by omega, by go_num⟩
          case measure => simp [intOf]; omega
      · obtain rfl : k = 256 := by omega
        go_wp2
        go_ret
        exact ⟨rfl, hw9⟩
  · have L1 := hid (lose_bad w.heap.size p hb wv7 (D2 a b) none 0 0 0 n w7 HD7.out (show (0 : Int) < 2 by decide) (show 1 ≤ 1000 by decide) (show (0 : Int) ≤ 0 ∧ (0 : Int) < 1 by decide) (by omega))
    unfold lossV at L1
    refine L1.out.mono ?_
    rintro e w8 ⟨rfl, hA8⟩
    have HN := hid hn
    clear L1 hn
    by_cases hn0 : n < 0
    · go_wp2
      go_ret
      exact ⟨rfl, hw7.trans hA8⟩
    · have hn1 : 256 < n := by have := HN.out; omega
      go_wp2
      go_ret
      exact ⟨rfl, hw7.trans hA8⟩

theorem own : ownKnob Try.prog.godebug = none := by kernel_rfl
theorem laidOut : laidOutB Try.prog = true := by kernel_rfl

/-- A number of eight bits is a byte's. -/
theorem byte_of {a : Int} (h : (Lit.int .u8 a).wf = true) : ∃ c : UInt8, a = (c.toNat : Int) := by
  have hb := bounds_u8 h
  refine ⟨UInt8.ofNat a.toNat, ?_⟩
  have : (UInt8.ofNat a.toNat).toNat = a.toNat := by simp; omega
  rw [this]; omega

set_option maxRecDepth 100000 in
theorem lifted (os : Os) (started : os.Started) (H : Type) (enc : TypeId × Value → H) :
    ReturnsInHanded {} Try.checked os 6 .any (Rows.diskTearsSpec.pre6 enc Try.prog Try.f6 Rows.diskTearsRow.domain false) (Rows.diskTearsSpec.post enc Try.prog Try.f6 false true false false) := by
  refine returnsInHanded_of_change (C := Try.checked) own started (by kernel_rfl) Try.func6
    (ChangeSpec.witness6 (enc := enc) (C := Try.checked) false ⟨#[], #[.int .u8 0, .int .u8 0, .int .i64 0], []⟩ 8 (by kernel_rfl) (by kernel_rfl) (by kernel_rfl) (by kernel_rfl)) ?_
  intro W base args ds gs before hval0 hW hcnd _
  have hval : ∀ (j : Nat) t v, Try.f6.params[j]? = some t → args[j]? = some v → Value.okWide Try.prog W .any base t v := hval0
  have hW' := hW
  obtain ⟨p, q, hA0, hV, rfl, hfz, hnd⟩ := hW
  have hA : DataW.TrodAll enc Try.prog W 0 (fun _ => true) true Try.f6.params.toList args.toList ds p := hA0
  rw [Try.params6] at hA hval
  obtain ⟨v0, vs0, d0, ds0, p0, q0, hargs, rfl, rfl, h0, r0⟩ := trodAll_cons hA
  obtain ⟨v1, vs1, d1, ds1, p1, q1, rfl, rfl, rfl, h1, r1⟩ := trodAll_cons r0
  obtain ⟨v2, vs2, d2, ds2, p2, q2, rfl, rfl, rfl, h2, r2⟩ := trodAll_cons r1
  obtain ⟨rfl, rfl, rfl⟩ := trodAll_nil r2
  obtain rfl : args = #[v0, v1, v2] := by cases args; simp_all
  obtain ⟨rfl, rfl⟩ := trodVars_none hV
  obtain ⟨a0, rfl, rfl, rfl, w0⟩ := open_int Try.underlying5 (hval 0 5 v0 rfl rfl) h0
  obtain ⟨a1, rfl, rfl, rfl, w1⟩ := open_int Try.underlying5 (hval 1 5 v1 rfl rfl) h1
  obtain ⟨a2, rfl, rfl, rfl, w2⟩ := open_int Try.underlying3 (hval 2 3 v2 rfl rfl) h2
  obtain ⟨x0, rfl⟩ := byte_of w0
  obtain ⟨x1, rfl⟩ := byte_of w1
  clear hA0 hval0
  simp only [List.append_nil] at hW'
  refine (walk x0 x1 a2 W).mono fun e W' ⟨he, hadd⟩ => ?_
  subst he
  have bel := hadd.below
  exact ⟨_, rfl, _, _, _, [], _, [], hW', trodAll_mk1 (shut_bool Try.underlying4 _), (trodAll_cons_mk (shut_int Try.underlying5 w0) (trodAll_cons_mk (shut_int Try.underlying5 w1) (trodAll_cons_mk (shut_int Try.underlying3 w2) trodAll_mk0))), rfl, bel.frame _, fun h => by cases h⟩
end Tears

theorem diskTears_holds : Rows.DiskTearsSaid :=
  OpenClaim.holds_of_wide 6 Try.f6 rfl rfl rfl rfl rfl rfl rfl ⟨rfl, rfl, rfl, rfl, rfl⟩ rfl rfl rfl rfl rfl (by kernel_rfl) Try.func6 (by kernel_rfl)
    (of_decide_eq_true (by kernel_rfl)) (by unfold Func.isWrapper; first | (rw [if_pos (by decide +kernel)]; kernel_rfl) | (rw [if_neg (by decide +kernel)]; exact ⟨rfl, rfl⟩))
    (fun os started H enc _ => Tears.lifted os started H enc)
#print axioms diskTears_holds
end Go.Proofs.Ytjjknckcodhnmaa
