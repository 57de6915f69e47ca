/- Proved: whatever n and calls are, the law DiskCuts returns true, and each argument reads behind the call as it read before; no condition. -/
import Derived.Test.YtjjknckcodhnmaaRows
import Derived.Test.YtjjknckcodhnmaaCut
import Derived.Test.YtjjknckcodhnmaaUn
import Derived.WalkKit
import Derived.ProofKit
import Derived.OpenShut
import Derived.ShutString
import Derived.ChangeOld
import Derived.Below
namespace Go.Proofs.Ytjjknckcodhnmaa
open Go.ChangeShapes Go.WideShapes Go.ChangeAt Go.RowKit

namespace Cuts
/-- What is told of the calls: where their numbers lie. -/
def CallsAt (w : World) (a : Option Addr) (len : Nat) : Prop := len ≤ 9223372036854775807 ∧ ∀ j, j < len → ∃ b o z, a = some ⟨b, o, none⟩ ∧ w.cell? ⟨b, o + j, none⟩ = some (.int .i64 z) ∧ (Lit.int .i64 z).wf = true

/-- Out of the reading: where a slice's numbers lie. -/
theorem ints_at {H : Type} {enc : TypeId × Value → H} {W : World} {a1 : Option Addr} {len1 cap1 : Nat} {d1 : DataW H} {p1 : List MemPlace} (h1 : DataW.Trod enc Try.prog W 0 (fun _ => true) true 57 (.slice a1 len1 cap1) d1 p1) : CallsAt W a1 len1 := by
  obtain ⟨fuel, hf⟩ := h1
  rcases open_ints Try.underlying57 Try.underlying3 (by kernel_rfl) hf with ⟨hcs, _⟩ | ⟨x, l, c, zs, hcs, _, hl, hm, hz, _, hcell, hwz⟩
  · simp [Value.cells] at hcs
    obtain ⟨rfl, rfl, rfl⟩ := hcs
    exact ⟨by omega, fun j hj => absurd hj (by omega)⟩
  · simp [Value.cells] at hcs
    obtain ⟨rfl, rfl, rfl⟩ := hcs
    have hz' : zs.length = cap1 := by simpa using hz
    refine ⟨by unfold maxLen at hm; omega, fun j hj => ?_⟩
    obtain ⟨b, o, sp⟩ := x
    have hc := hcell j (by omega)
    have hsp : sp = none := by
      have hc0 := hcell 0 (by omega)
      have : (⟨b, o, sp⟩ : Addr).add 0 = ⟨b, o, sp⟩ := rfl
      rw [this] at hc0
      cases sp with
      | none => rfl
      | some q => simp [World.cell?] at hc0; split at hc0 <;> simp at hc0
    subst hsp
    refine ⟨b, o, zs.getD j 0, rfl, by rw [← Addr.add_mid]; exact hc, hwz _ ?_⟩
    rw [List.getD_eq_getElem?_getD, List.getElem?_eq_getElem (by omega)]
    exact List.getElem_mem _

theorem rem_range (a m : Int) (h0 : 0 < m) (h1 : m ≤ 1000) : 0 ≤ wrap64 ((IntKind.u64.wrap a).tmod m) ∧ wrap64 ((IntKind.u64.wrap a).tmod m) < m := by
  have hu : 0 ≤ IntKind.u64.wrap a := by
    simp only [IntKind.wrap]
    exact Int.emod_nonneg _ (by decide)
  rw [Int.tmod_eq_emod_of_nonneg hu]
  have e0 := Int.emod_nonneg (IntKind.u64.wrap a) (show m ≠ 0 by omega)
  have e1 := Int.emod_lt_of_pos (IntKind.u64.wrap a) h0
  generalize IntKind.u64.wrap a % m = r at e0 e1
  unfold wrap64
  omega

theorem wrap_64 (n : Int) : IntKind.i64.wrap n = wrap64 n := by unfold wrap64; exact IntKind.wrap_i64 n
theorem wrap_byte (x : Int) : ∃ c : UInt8, IntKind.u8.wrap x = (c.toNat : Int) := by
  have h : 0 ≤ IntKind.u8.wrap x ∧ IntKind.u8.wrap x < 256 := by
    simp only [IntKind.wrap]
    exact ⟨Int.emod_nonneg _ (by decide), Int.emod_lt_of_pos _ (by decide)⟩
  refine ⟨UInt8.ofNat (IntKind.u8.wrap x).toNat, ?_⟩
  have : (UInt8.ofNat (IntKind.u8.wrap x).toNat).toNat = (IntKind.u8.wrap x).toNat := by simp; omega
  rw [this]; omega

set_option maxRecDepth 100000 in
set_option maxHeartbeats 2000000 in
theorem walk (a0 : Int) (w0 : (Lit.int .i64 a0).wf = true) (a : Option Addr) (len cap : Nat) (w : World) (hc : CallsAt w a len) : Calls Try.prog 7 #[.int .i64 a0, .slice a len cap] w (PLaw w) := by
  have hb0 := bounds_i64 w0
  obtain ⟨hlen, hcalls⟩ := hc
  have HC := hid hcalls
  clear hcalls w0
  go_enter Try.func7, Try.ntmps7
  go_wp2_with (first
    | (go_at_call 8; refine (new_yes 4 w w.heap.size (Nat.le_refl _) (by decide) (by decide)).mono ?_; rintro e w1 ⟨p, hb, rfl, hp, hhb, hd1, hA1⟩)
    | (go_at_call 10; refine (works_any _).mono ?_; rintro e w2 ⟨rfl, hA2⟩))
  have hN := rem_range a0 20 (by decide) (by decide)
  generalize wrap64 ((IntKind.u64.wrap a0).tmod 20) = N at hN
  obtain ⟨hN0, hN1⟩ := hN
  have hd2 := hd1.adds hA2
  have hw2 : Adds w w2 := hA1.trans hA2
  refine (cut_ok w.heap.size p hb _ (St.new 4) N w2 hd2 (by decide) hN0).mono ?_
  rintro e w3 ⟨rfl, hd3, hT3⟩
  have hw3 : Adds w w3 := hw2.then hT3 (fun j hj c => by omega)
  have HD3 := hid hd3
  clear hd3 hT3 hd2 hd1 hA1 hA2 hw2 hb0
  go_wp2
  go_loopw [7] (fun t wr => ∃ (k : Nat) (wv : Value) (D : St), k ≤ 40 ∧ t = .int .i64 k ∧ Hid (IsDisk wr w.heap.size p hb wv D ∧ D.size = 4 ∧ 0 ≤ D.steps ∧ D.steps ≤ N ∧ D.left = N - D.steps ∧ D.W.length ≤ k ∧ Adds w wr)) (fun t _ => 40 - (intOf t).toNat)
  case atStart => exact ⟨0, _, _, by omega, rfl, HD3.out, rfl, Int.le_refl _, hN0, by simp [St.cut, St.new], Nat.le_refl _, hw3⟩
  case round =>
    obtain ⟨k, wv, D, hk, rfl, HH⟩ := hrel
    obtain ⟨hd, hsz, hs0, hsN, hleft, hWl, hAr⟩ := HH.out
    have HD := hid hd
    have c0 : wr.cell? ⟨p, 0, none⟩ = some (.int .i64 4) := by rw [← hsz]; exact cellOf hd.box 0
    have c3 : wr.cell? ⟨p, 3, none⟩ = some (.int .i64 D.steps) := cellOf hd.box 3
    have c4 : wr.cell? ⟨p, 4, none⟩ = some (.int .i64 D.left) := cellOf hd.box 4
    have MS := hid (steps_any p 4 D.steps wr c0 c3 (by decide))
    by_cases hlt : k < len ∧ k < 40
    · obtain ⟨b, o, z, rfl, hcz, hwz⟩ := HC.out k hlt.1
      have hbz := bounds_i64 hwz
      obtain ⟨hlt1, hlt2⟩ := hlt
      have hcr : wr.cell? ⟨b, o + k, none⟩ = some (.int .i64 z) := by
        rw [World.cell?_of_block (w := w) (hAr.block b (World.block_lt_of_cell? w _ hcz) id)]; exact hcz
      have HCZ := hid hcz
      have HLE := hid hleft
      have HSZ := hid hsz
      clear hcz hwz hd HH hleft hsz
      go_upto_if 51 with (go_at_call 25; refine MS.out.mono ?_; rintro e _ ⟨rfl, hw⟩; rw [hw])
      go_cut [9] (fun t w' => ∃ (wv' : Value) (D' : St), Hid (IsDisk w' w.heap.size p hb wv' D' ∧ D'.size = 4 ∧ Adds w w' ∧ D'.W.length ≤ k + 1 ∧ D'.left = N - D'.steps) ∧ ((D.steps < N ∧ t = .int .i64 0 ∧ D'.steps = D.steps + 1) ∨ (N ≤ D.steps ∧ t = .int .i64 10 ∧ D'.steps = D.steps)))
      case first =>
        obtain ⟨c, hcb⟩ := wrap_byte (k : Int)
        have M27 := hid (show Calls Try.prog 27 #[.int .u8 (IntKind.u8.wrap (k : Int))] wr.drew (fun e w' => ∃ g, e = .returned (.slice (some ⟨g, 0, none⟩) 256 256) ∧ wr.drew.heap.size ≤ g ∧ Bytes w' g (sec c) ∧ Adds wr.drew w') by rw [hcb]; exact filled_any c wr.drew)
        have HKEEP := hid (show ∀ w', Adds w w' → w'.cell? ⟨b, o + k, none⟩ = some (.int .i64 z) from fun w' h => below_adds h HCZ.out)
        have HI4 := hid (show 0 ≤ IntKind.i64.wrap ((IntKind.u64.wrap z).tmod 4) ∧ IntKind.i64.wrap ((IntKind.u64.wrap z).tmod 4) < 4 by rw [wrap_64]; exact rem_range z 4 (by decide) (by decide))
        have HI := hid (show 0 ≤ IntKind.i64.wrap ((IntKind.u64.wrap z).tmod 4) ∧ IntKind.i64.wrap ((IntKind.u64.wrap z).tmod 4) < D.size by rw [HSZ.out]; exact HI4.out)
        have HWL : Hid (D.W.length ≤ 1000) := show _ ≤ _ by omega
        have HST : Hid (D.steps < 1000000) := show _ < _ by omega
        clear hcb
        by_cases hon : D.steps < N
        · have hl0 : D.left ≠ 0 := by rw [HLE.out]; omega
          have hl1 : -1 ≤ D.left := by rw [HLE.out]; omega
          have hl2 : D.left ≤ 9223372036854775807 := by rw [HLE.out]; omega
          have hless : less D.left = N - (D.steps + 1) := by rw [less, HLE.out, if_pos (by omega)]; omega
          have MY := hid (sync_ok w.heap.size p hb wv D wr HD.out (by omega) (by rw [HSZ.out]; decide) hl0 hs0 (by omega) hl1 hl2)
          have HL := hid (show D.left ≠ 0 ∧ -1 ≤ D.left ∧ D.left ≤ 9223372036854775807 ∧ less D.left = N - (D.steps + 1) from ⟨hl0, hl1, hl2, hless⟩)
          clear hl0 hl1 hl2 hless
          go_wp2_with (go_at_call 14; refine MY.out.mono ?_; rintro e w5 ⟨rfl, hd5, hT5⟩)
          · go_meet
            case rel => exact ⟨_, _, ⟨hd5, HSZ.out, adds_sync hAr HD.out hT5, Nat.zero_le _, HL.out.2.2.2⟩, .inl ⟨hon, rfl, rfl⟩⟩
          · go_region_held3 (fun w' => w'.cell? ⟨b, o + k, none⟩ = some (.int .i64 z)) (first | exact hcr | exact HKEEP.out _ hAw6 | exact HKEEP.out _ hAw5) (first | (go_at_call 27; refine M27.out.mono ?_; rintro e w5 ⟨g5, rfl, _, hB5, hA5⟩; have hAw5 : Adds w w5 := hAr.drew.trans hA5) | (go_at_call 12; refine (write_ok w.heap.size p hb wv D (IntKind.i64.wrap ((IntKind.u64.wrap z).tmod 4)) g5 0 256 (sec c) w5 (HD.out.adds ((Touch.refl _ wr).drew.trans hA5)) HWL.out HI.out HL.out.1 (sec_len c) (bytes_range hB5) hs0 HST.out HL.out.2.1 HL.out.2.2.1).mono ?_; rintro e w6 ⟨wv6, rfl, hd6, hT6⟩; have hAw6 : Adds w w6 := adds_write hAw5 (HD.out.adds ((Touch.refl _ wr).drew.trans hA5)) hT6))
            go_wp2
            go_meet
            case rel => exact ⟨_, _, ⟨hd6, HSZ.out, hAw6, by show (D.W ++ [_]).length ≤ _; rw [List.length_append]; simp; omega, HL.out.2.2.2⟩, .inl ⟨hon, rfl, rfl⟩⟩
        · have hl0 : D.left = 0 := by rw [HLE.out]; omega
          have c4' : wr.cell? ⟨p, 4, none⟩ = some (.int .i64 0) := by rw [c4, hl0]
          have MY := hid (sync_off p 4 wr c0 c4' (by decide))
          have HR0 := hid (show ∀ w5, Adds wr.drew w5 → w5.cell? ⟨p, 0, none⟩ = some (.int .i64 4) ∧ w5.cell? ⟨p, 4, none⟩ = some (.int .i64 0) from fun w5 h => ⟨below_adds (w1 := wr.drew) h c0, below_adds (w1 := wr.drew) h c4'⟩)
          clear c4 c4' hl0
          go_wp2_with (go_at_call 14; refine MY.out.mono ?_; rintro e _ ⟨rfl, hw5⟩; rw [hw5])
          · go_meet
            case rel => exact ⟨wv, D, ⟨HD.out, HSZ.out, hAr, by omega, HLE.out⟩, .inr ⟨by omega, rfl, rfl⟩⟩
          · go_region_held3 (fun w' => w'.cell? ⟨b, o + k, none⟩ = some (.int .i64 z)) (first | exact hcr | exact HKEEP.out _ hAw5) (first | (go_at_call 27; refine M27.out.mono ?_; rintro e w5 ⟨g5, rfl, _, hB5, hA5⟩; have hAw5 : Adds w w5 := hAr.drew.trans hA5) | (go_at_call 12; refine (write_off p 4 (IntKind.i64.wrap ((IntKind.u64.wrap z).tmod 4)) _ 256 w5 (HR0.out w5 hA5).1 (HR0.out w5 hA5).2 (by decide) HI4.out).mono ?_; rintro e _ ⟨rfl, hw6⟩; rw [hw6]))
            go_wp2
            go_meet
            case rel => exact ⟨wv, D, ⟨HD.out.adds ((Touch.refl _ wr).drew.trans hA5), HSZ.out, hAw5, by omega, HLE.out⟩, .inr ⟨by omega, rfl, rfl⟩⟩
      case rest =>
        rename World => w7
        obtain ⟨wv', D', HH', hcase⟩ := hcut
        have cc0 : w7.cell? ⟨p, 0, none⟩ = some (.int .i64 4) := by rw [← HH'.out.2.1]; exact cellOf HH'.out.1.box 0
        have cc3 : w7.cell? ⟨p, 3, none⟩ = some (.int .i64 D'.steps) := cellOf HH'.out.1.box 3
        have MS' := hid (steps_any p 4 D'.steps w7 cc0 cc3 (by decide))
        clear cc0 cc3 c0 c3 c4 hcr MS
        rcases hcase with ⟨hon, rfl, hst⟩ | ⟨hof, rfl, hst⟩
        · rw [hst] at MS'
          have HST := hid hst
          clear hst
          go_wp2_with (go_at_call 25; refine MS'.out.mono ?_; rintro e _ ⟨rfl, hw⟩; rw [hw])
          go_roundw
          case rel => exact ⟨k + 1, wv', D', by omega, by go_num, HH'.out.1, HH'.out.2.1, by rw [HST.out]; omega, by rw [HST.out]; omega, HH'.out.2.2.2.2, HH'.out.2.2.2.1, HH'.out.2.2.1⟩
          case measure => simp [intOf]; omega
        · have hsn : D.steps = N := by omega
          rw [hst, hsn] at MS'
          have HST := hid hst
          clear hst
          go_wp2_with (go_at_call 25; refine MS'.out.mono ?_; rintro e _ ⟨rfl, hw⟩; rw [hw])
          go_roundw
          case rel => exact ⟨k + 1, wv', D', by omega, by go_num, HH'.out.1, HH'.out.2.1, by rw [HST.out]; omega, by rw [HST.out]; omega, HH'.out.2.2.2.2, HH'.out.2.2.2.1, HH'.out.2.2.1⟩
          case measure => simp [intOf]; omega
    · by_cases hoff : D.steps = N
      · have c4' : wr.cell? ⟨p, 4, none⟩ = some (.int .i64 0) := by rw [c4, hleft, hoff, Int.sub_self]
        have MR := hid (read_off p 4 0 wr c0 c4' (by decide) (by decide))
        rw [hoff] at MS
        by_cases hkl : k < len
        · have hk40 : ¬ k < 40 := fun h => hlt ⟨hkl, h⟩
          have hk40' : k = 40 := by omega
          subst hk40'
          clear HH hd hleft c3 c4 c4' hlt
          go_wp2_with (first
            | (go_at_call 23; refine MR.out.mono ?_; rintro e _ ⟨rfl, hw⟩; rw [hw])
            | (go_at_call 25; refine MS.out.mono ?_; rintro e _ ⟨rfl, hw⟩; rw [hw]))
          go_ret
          exact ⟨rfl, hAr⟩
        · clear HH hd hleft c3 c4 c4' hlt
          go_wp2_with (first
            | (go_at_call 23; refine MR.out.mono ?_; rintro e _ ⟨rfl, hw⟩; rw [hw])
            | (go_at_call 25; refine MS.out.mono ?_; rintro e _ ⟨rfl, hw⟩; rw [hw]))
          go_ret
          exact ⟨rfl, hAr⟩
      · have MR := hid (read_ok w.heap.size p hb wv D 0 wr hd (by omega) (by rw [hsz]; decide) (by rw [hleft]; omega))
        have hne : (D.steps == N) = false := by simp [hoff]
        have MS2 := hid (show ∀ w', Adds wr w' → Calls Try.prog 25 #[.pointer (some ⟨p, 0, none⟩)] w' fun e w'' => e = .returned (.int .i64 D.steps) ∧ w'' = w' from fun w' h => steps_any p 4 D.steps w' (below_adds h c0) (below_adds h c3) (by decide))
        by_cases hkl : k < len
        · have hk40' : k = 40 := by
            have hk40 : ¬ k < 40 := fun h => hlt ⟨hkl, h⟩
            omega
          subst hk40'
          clear HH hd hleft c0 c3 c4 hlt hoff MS
          go_wp2_with (first
            | (go_at_call 23; refine MR.out.mono ?_; intro e w8 hr8; obtain ⟨gx, cx, rfl, _, _, _, hA8⟩ := hr8.reads)
            | (go_at_call 25; refine (MS2.out _ hA8).mono ?_; rintro e _ ⟨rfl, hw⟩; rw [hw]))
          go_ret
          exact ⟨rfl, hAr.trans hA8⟩
        · clear HH hd hleft c0 c3 c4 hlt hoff MS
          go_wp2_with (first
            | (go_at_call 23; refine MR.out.mono ?_; intro e w8 hr8; obtain ⟨gx, cx, rfl, _, _, _, hA8⟩ := hr8.reads)
            | (go_at_call 25; refine (MS2.out _ hA8).mono ?_; rintro e _ ⟨rfl, hw⟩; rw [hw]))
          go_ret
          exact ⟨rfl, hAr.trans hA8⟩

theorem own : ownKnob Try.prog.godebug = none := by kernel_rfl
theorem laidOut : laidOutB Try.prog = true := by kernel_rfl

set_option maxRecDepth 100000 in
theorem lifted (os : Os) (started : os.Started) (H : Type) (enc : TypeId × Value → H) :
    ReturnsInHanded {} Try.checked os 7 .any (Rows.diskCutsSpec.pre6 enc Try.prog Try.f7 Rows.diskCutsRow.domain false) (Rows.diskCutsSpec.post enc Try.prog Try.f7 false true false false) := by
  refine returnsInHanded_of_change (C := Try.checked) own started (by kernel_rfl) Try.func7
    (ChangeSpec.witness6 (enc := enc) (C := Try.checked) false ⟨#[], #[.int .i64 0, .slice none 0 0], []⟩ 8 (by kernel_rfl) (by kernel_rfl) (by kernel_rfl) (by kernel_rfl)) ?_
  intro W base args ds gs before hval0 hW hcnd _
  have hval : ∀ (j : Nat) t v, Try.f7.params[j]? = some t → args[j]? = some v → Value.okWide Try.prog W .any base t v := hval0
  have hW' := hW
  obtain ⟨p, q, hA0, hV, rfl, hfz, hnd⟩ := hW
  have hA : DataW.TrodAll enc Try.prog W 0 (fun _ => true) true Try.f7.params.toList args.toList ds p := hA0
  rw [Try.params7] at hA hval
  obtain ⟨v0, vs0, d0, ds0, p0, q0, hargs, rfl, rfl, h0, r0⟩ := trodAll_cons hA
  obtain ⟨v1, vs1, d1, ds1, p1, q1, rfl, rfl, rfl, h1, r1⟩ := trodAll_cons r0
  obtain ⟨rfl, rfl, rfl⟩ := trodAll_nil r1
  obtain rfl : args = #[v0, v1] := by cases args; simp_all
  obtain ⟨rfl, rfl⟩ := trodVars_none hV
  obtain ⟨a0, rfl, rfl, rfl, w0⟩ := open_int Try.underlying3 (hval 0 3 v0 rfl rfl) h0
  obtain ⟨a1, len1, cap1, rfl⟩ := okWide_slice Try.underlying57 (hval 1 57 v1 rfl rfl)
  have k1 := h1
  have lt1 : ∀ x ∈ p1, x.block < W.heap.size := by obtain ⟨m, hm⟩ := k1; exact DataW.trod_lt m _ _ _ hm
  have hC : CallsAt W a1 len1 := ints_at h1
  clear hA0 hval0
  refine (walk a0 w0 a1 len1 cap1 W hC).mono fun e W' ⟨he, hadd⟩ => ?_
  subst he
  have bel := hadd.below
  exact ⟨_, rfl, _, _, _, [], _, [], hW', trodAll_mk1 (shut_bool Try.underlying4 _), (trodAll_cons_mk (shut_int Try.underlying3 w0) (trodAll_cons_mk (Below.trod laidOut (by kernel_rfl) (of_decide_eq_true (by kernel_rfl)) k1 bel lt1) trodAll_mk0)), rfl, bel.frame _, fun h => by cases h⟩
end Cuts

theorem diskCuts_holds : Rows.DiskCutsSaid :=
  OpenClaim.holds_of_wide 7 Try.f7 rfl rfl rfl rfl rfl rfl rfl ⟨rfl, rfl, rfl, rfl, rfl⟩ rfl rfl rfl rfl rfl (by kernel_rfl) Try.func7 (by kernel_rfl)
    (of_decide_eq_true (by kernel_rfl)) (by unfold Func.isWrapper; first | (rw [if_pos (by decide +kernel)]; kernel_rfl) | (rw [if_neg (by decide +kernel)]; exact ⟨rfl, rfl⟩))
    (fun os started H enc _ => Cuts.lifted os started H enc)
#print axioms diskCuts_holds
end Go.Proofs.Ytjjknckcodhnmaa
