/- Proved: whatever the bytes b and the calls l are, the law CodecReads returns true, and its arguments read behind the call as they read before; no condition. -/
import Derived.Test.YtlpeejbgefbfeaaPlay
import Derived.Test.YtlpeejbgefbfeaaBase
import Derived.Deep.SlicePairs
namespace Go.Proofs.Ytlpeejbgefbfeaa
open Go.ChangeShapes Go.WideShapes Go.ChangeAt Go.RowKit

theorem slice_low {W : World} {r : Reach} {base : Nat} {a : Option Addr} {len cap : Nat} (h : Value.okWide Try.prog W r base 22 (.slice a len cap)) : ∀ ad, a = some ad → ad.spot = none ∧ ad.block < W.heap.size := by
  rintro ad rfl
  simp only [Value.okWide, Try.underlying22, Cell.okWide, Cell.ok] at h
  obtain ⟨_, _, _, h2, row, cells, h3, _⟩ := h
  refine ⟨h2, ?_⟩
  rcases Nat.lt_or_ge ad.block W.heap.size with h | h
  · exact h
  · simp [World.shape?, Array.getElem?_eq_none h] at h3
/-- Calls that came in: where they lie. -/
theorem asks_at {H : Type} {enc : TypeId × Value → H} {W : World} {a : Option Addr} {len cap : Nat} {d : DataW H} {p : List MemPlace} (h1 : DataW.Trod enc Try.prog W 0 (fun _ => true) true 37 (.slice a len cap) d p) :
    ∃ L : List (Int × Nat), len = L.length ∧ AsksAt W a L ∧ ∀ x ∈ L, x.2 < 18446744073709551616 := by
  obtain ⟨fuel, hf⟩ := h1
  rcases Go.Deep.open_slice_pairs Try.underlying37 Try.underlying44 (by kernel_rfl) rfl rfl (by kernel_rfl) (by kernel_rfl) hf with ⟨hcs, _⟩ | ⟨x, l, c, m, n, V0, V1, D0, D1, P0, P1, hcs, _, hl, hm, hmm, _, hx⟩
  · simp [Value.cells] at hcs
    obtain ⟨rfl, rfl, rfl⟩ := hcs
    exact ⟨[], rfl, fun k x h => by simp at h, fun x h => by simp at h⟩
  · simp [Value.cells] at hcs
    obtain ⟨rfl, rfl, rfl⟩ := hcs
    simp at hmm
    subst hmm
    have key : ∀ i, i < len → ∃ z0 z1 : Int, V0 i = .int .i64 z0 ∧ V1 i = .int .u64 z1 ∧ 0 ≤ z1 ∧ z1 < 18446744073709551616 := by
      intro i hi
      obtain ⟨_, _, k3, k4⟩ := hx i (by omega)
      obtain ⟨z0, e0, _, _⟩ := DataW.trod_int Try.underlying3 k3
      obtain ⟨z1, e1, _, w1⟩ := DataW.trod_int Try.underlying23 k4
      obtain ⟨n1, rfl, hn1⟩ := u64_of_wf w1
      simp at e0 e1
      exact ⟨z0, _, e0, e1, by omega, by omega⟩
    refine ⟨(List.range len).map (fun i => (intOf (V0 i), (intOf (V1 i)).toNat)), by simp, ?_, ?_⟩
    · intro k y hk
      have hkl : k < len := by
        rcases Nat.lt_or_ge k len with h | h
        · exact h
        · rw [List.getElem?_eq_none (by simpa using h)] at hk; cases hk
      rw [List.getElem?_map, List.getElem?_range hkl] at hk
      simp only [Option.map_some, Option.some.injEq] at hk
      subst hk
      obtain ⟨z0, z1, e0, e1, h0, _⟩ := key k hkl
      obtain ⟨k1, k2, _, _⟩ := hx k (by omega)
      obtain ⟨b, o, sp⟩ := x
      have hsp : sp = none := by
        obtain ⟨q1, _, _, _⟩ := hx 0 (by omega)
        have e : (⟨b, o, sp⟩ : Addr).add (0 * 2) = ⟨b, o, sp⟩ := rfl
        rw [e] at q1
        cases sp with
        | none => rfl
        | some q => simp [World.cell?] at q1; split at q1 <;> simp at q1
      subst hsp
      rw [Addr.add_mid] at k1 k2
      refine ⟨b, o, rfl, by rw [k1, e0]; rfl, ?_⟩
      rw [Nat.add_assoc, k2, e1]
      show some (Value.int .u64 z1) = some (.int .u64 ((z1.toNat : Nat) : Int))
      rw [Int.toNat_of_nonneg h0]
    · intro y hy
      obtain ⟨i, hi, rfl⟩ := List.mem_map.1 hy
      obtain ⟨z0, z1, e0, e1, h0, h1⟩ := key i (List.mem_range.1 hi)
      show (intOf (V1 i)).toNat < _
      rw [e1]
      show z1.toNat < _
      omega
theorem reads_any (a : Option Addr) (bs : List UInt8) (cap : Nat) (al : Option Addr) (L : List (Int × Nat)) (capl : Nat) (w : World) (hcap : a = none → cap = 0) (hroom : bs.length ≤ cap) (hsp : ∀ ad, a = some ad → ad.spot = none ∧ ad.block < w.heap.size) (hA : At w a bs) (hL : AsksAt w al L) (hwf : ∀ x ∈ L, x.2 < 18446744073709551616) :
    Calls Try.prog 4 #[.slice a bs.length cap, .slice al L.length capl] w (PLaw w) := by
  by_cases h : 3000 < bs.length
  · exact reads_long a bs.length cap _ h w
  · exact reads_walk a bs cap al L capl w (by omega) hcap hroom hsp hA hL hwf

namespace CodecReads
set_option maxRecDepth 100000 in
theorem lifted (os : Os) (started : os.Started) (H : Type) (enc : TypeId × Value → H) :
    ReturnsInHanded {} Try.checked os 4 .any (Rows.codecReadsSpec.pre6 enc Try.prog Try.f4 Rows.codecReadsRow.domain false) (Rows.codecReadsSpec.post enc Try.prog Try.f4 false true false false) := by
  refine returnsInHanded_of_change (C := Try.checked) own started (by kernel_rfl) Try.func4
    (ChangeSpec.witness6 (enc := enc) (C := Try.checked) false ⟨#[], #[.slice none 0 0, .slice none 0 0], []⟩ 8 (by kernel_rfl) (by kernel_rfl) (by kernel_rfl) (by kernel_rfl)) ?_
  intro W base args ds gs before hval0 hW hcnd _
  have hval : ∀ (j : Nat) t v, Try.f4.params[j]? = some t → args[j]? = some v → Value.okWide Try.prog W .any base t v := hval0
  have hW' := hW
  obtain ⟨p, q, hA0, hV, rfl, hfz, hnd⟩ := hW
  have hA : DataW.TrodAll enc Try.prog W 0 (fun _ => true) true Try.f4.params.toList args.toList ds p := hA0
  rw [Try.params4] at hA hval
  obtain ⟨v0, vs0, d0, ds0, p0, q0, hargs, rfl, rfl, h0, r0⟩ := trodAll_cons hA
  obtain ⟨v1, vs1, d1, ds1, p1, q1, rfl, rfl, rfl, h1, r1⟩ := trodAll_cons r0
  obtain ⟨rfl, rfl, rfl⟩ := trodAll_nil r1
  obtain rfl : args = #[v0, v1] := by cases args; simp_all
  obtain ⟨rfl, rfl⟩ := trodVars_none hV
  obtain ⟨a0, len0, cap0, rfl⟩ := okWide_slice Try.underlying22 (hval 0 22 v0 rfl rfl)
  have k0 := h0
  have lt0 : ∀ x ∈ p0, x.block < W.heap.size := by obtain ⟨m, hm⟩ := k0; exact DataW.trod_lt m _ _ _ hm
  obtain ⟨bs0, rfl, hat0, hc0, hl0, hm0⟩ := bytes_at h0
  obtain ⟨a1, len1, cap1, rfl⟩ := okWide_slice Try.underlying37 (hval 1 37 v1 rfl rfl)
  have k1 := h1
  have lt1 : ∀ x ∈ p1, x.block < W.heap.size := by obtain ⟨m, hm⟩ := k1; exact DataW.trod_lt m _ _ _ hm
  obtain ⟨L, rfl, hasks, hwf⟩ := asks_at h1
  have hlow := slice_low (hval 0 22 _ rfl rfl)
  clear hA0 hval0
  refine (reads_any a0 bs0 cap0 a1 L cap1 W hc0 hl0 hlow hat0 hasks hwf).mono fun e W' ⟨he, hadd⟩ => ?_
  subst he
  have bel := hadd.below
  exact ⟨_, rfl, _, _, _, [], _, [], hW', trodAll_mk1 (shut_bool Try.underlying4 _), (trodAll_cons_mk (Below.trod laidOut (by kernel_rfl) (of_decide_eq_true (by kernel_rfl)) k0 bel lt0) (trodAll_cons_mk (Below.trod laidOut (by kernel_rfl) (of_decide_eq_true (by kernel_rfl)) k1 bel lt1) trodAll_mk0)), rfl, bel.frame _, fun h => by cases h⟩
end CodecReads

theorem codecReads_holds : Rows.CodecReadsSaid :=
  OpenClaim.holds_of_wide 4 Try.f4 rfl rfl rfl rfl rfl rfl rfl ⟨rfl, rfl, rfl, rfl, rfl⟩ rfl rfl rfl rfl rfl (by kernel_rfl) Try.func4 (by kernel_rfl)
    (of_decide_eq_true (by kernel_rfl)) (by unfold Func.isWrapper; first | (rw [if_pos (by decide +kernel)]; kernel_rfl) | (rw [if_neg (by decide +kernel)]; exact ⟨rfl, rfl⟩))
    (fun os started H enc _ => CodecReads.lifted os started H enc)
#print axioms codecReads_holds
end Go.Proofs.Ytlpeejbgefbfeaa
