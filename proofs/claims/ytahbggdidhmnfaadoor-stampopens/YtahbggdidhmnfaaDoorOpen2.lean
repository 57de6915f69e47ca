/- Clone and Open. -/
import Derived.Test.YtahbggdidhmnfaaDoorOpen
import Derived.Deep.RegionHeld3
namespace Go.Proofs.YtahbggdidhmnfaaDoor
open Go.RowKit

theorem At.owns {w : World} {base n cap : Nat} {a : Option Addr} {bs : List UInt8} (h : w.ownsRow base 5 1 (.slice a n cap) n (S bs)) : At w a bs := by
  rcases h.2 with ⟨e, hn⟩ | ⟨g', cap', cur, e, _⟩
  · have hl := h.1
    rw [length_S, hn] at hl
    obtain rfl : bs = [] := List.eq_nil_of_length_eq_zero (by omega)
    exact At.nil _ _
  · obtain ⟨rfl, rfl⟩ : a = some ⟨g', 0, none⟩ ∧ cap = cap' := by simpa using e
    exact At.own h

/-- What Clone tells. -/
def CPClone (w : World) (bs : List UInt8) (e : Ending) (w' : World) : Prop := ∃ g cap, e = .returned (.slice (some ⟨g, 0, none⟩) bs.length cap) ∧ w.heap.size ≤ g ∧ w'.ownsRow w.heap.size 5 1 (.slice (some ⟨g, 0, none⟩) bs.length cap) bs.length (S bs) ∧ Adds w w'

set_option maxHeartbeats 1000000 in
theorem cclone_any (ad : Addr) (bs : List UInt8) (cap : Nat) (w : World) (hlen : bs.length ≤ 1000000) (hA : At w (some ad) bs) : Calls Tryd.prog 46 #[.slice (some ad) bs.length cap] w (CPClone w bs) := by
  have hq := fun w => Lib.run_eql_slice_nil (P := Tryd.prog) w 23 5 (some ad) bs.length cap 0 0 Tryd.underlying23
  have HA1 := hid (hA.adds ((Touch.refl _ w).alloc (.cells #[] 5)))
  have HO := hid (World.ownsRow_lit (base := w.heap.size) (e := 5) (size := 1) w #[] 0 (Nat.le_refl _) (by decide) rfl)
  have HL := hid hlen
  clear hA hlen
  go_enter Tryd.func46, Tryd.ntmps46
  go_wp2_with (at_builtin; refine append_bytes rfl _ _ rfl w.heap.size (.slice (some ⟨w.heap.size, 0, none⟩) 0 0) 0 [] rfl HO.out (some ad) bs cap rfl (fun e => by cases e) HA1.out (by have := HL.out; omega) (by simp) ?_; intro v1 w1 hown1 hgrow1 hne1)
  go_ret
  have hne : v1 ≠ .slice none 0 0 := by
    rcases hne1 with h | h
    · cases h
    · exact h
  rw [Nat.zero_add, List.nil_append] at hown1
  rcases hown1.2 with ⟨e, _⟩ | ⟨g, cap', cur, rfl, hb, _⟩
  · exact absurd e hne
  · exact ⟨g, cap', rfl, hb, hown1, Touch.grown ((Touch.refl _ w).alloc _) hgrow1 (fun k hk hlt => by simp [Value.ownBlock] at hk; omega)⟩

theorem shl8 (c : UInt8) : (c.toNat : Int) * 256 % 4294967296 = N (C.z8 c <<< 8) := by rw [← N_z8]; exact N_shl (C.z8 c) 8
theorem shl16 (c : UInt8) : (c.toNat : Int) * 65536 % 4294967296 = N (C.z8 c <<< 16) := by rw [← N_z8]; exact N_shl (C.z8 c) 16
theorem shl24 (c : UInt8) : (c.toNat : Int) * 16777216 % 4294967296 = N (C.z8 c <<< 24) := by rw [← N_z8]; exact N_shl (C.z8 c) 24
theorem wrapu (z : Int) : IntKind.u32.wrap z = z % 4294967296 := by simp [IntKind.wrap, IntKind.bits, IntKind.signed]

/-- What Open tells of bytes with four behind them. -/
def PLong (w : World) (body : List UInt8) (c0 c1 c2 c3 : UInt8) (e : Ending) (w' : World) : Prop :=
  (le (C.sum body) = [c0, c1, c2, c3] → ∃ g cap, e = .returned (.tuple #[.slice (some ⟨g, 0, none⟩) body.length cap, .int .i64 0]) ∧ w.heap.size ≤ g ∧ w'.ownsRow w.heap.size 5 1 (.slice (some ⟨g, 0, none⟩) body.length cap) body.length (S body) ∧ Adds w w') ∧
  (le (C.sum body) ≠ [c0, c1, c2, c3] → e = .returned (.tuple #[.slice none 0 0, .int .i64 20]) ∧ Adds w w')

set_option maxRecDepth 100000 in
set_option maxHeartbeats 4000000 in
theorem open_long (b o cap : Nat) (body : List UInt8) (c0 c1 c2 c3 : UInt8) (w : World) (hlen : body.length ≤ 1000000) (hcap : body.length + 4 ≤ cap) (hT : Tab w) (hA : At w (some ⟨b, o, none⟩) (body ++ [c0, c1, c2, c3])) :
    Calls Tryd.prog 35 #[.slice (some ⟨b, o, none⟩) (body.length + 4) cap] w (PLong w body c0 c1 c2 c3) := by
  have hpre : At w (some ⟨b, o, none⟩) body := by have := hA.pre body.length; rwa [List.take_left] at this
  have hsuf : At w (some ⟨b, o + body.length, none⟩) [c0, c1, c2, c3] := by have := hA.suf body.length; rwa [List.drop_left] at this
  have cell : ∀ j c, [c0, c1, c2, c3][j]? = some c → w.cell? ⟨b, o + body.length + j, none⟩ = some (.int .u8 (c.toNat : Int)) := by
    intro j c hj
    obtain ⟨b', o', e, hc⟩ := hsuf j c hj
    obtain ⟨rfl, rfl⟩ : b = b' ∧ o + body.length = o' := by simpa using e
    exact hc
  have e0 : w.cell? ⟨b, o + body.length, none⟩ = some (.int .u8 (c0.toNat : Int)) := cell 0 c0 rfl
  have e1 := cell 1 c1 rfl
  have e2 := cell 2 c2 rfl
  have e3 := cell 3 c3 rfl
  have HE := hid (And.intro e0 (And.intro e1 (And.intro e2 e3)))
  have HS := hid (sum_any (some ⟨b, o, none⟩) body cap w.drew.drew (by omega) hT hpre)
  have HC := hid (cclone_any ⟨b, o, none⟩ body cap w.drew.drew hlen hpre)
  have s1 := run_pre (some ⟨b, o, none⟩) (body.length + 4) cap body.length (by omega)
  have s2 := run_suf (some ⟨b, o, none⟩) (body.length + 4) cap body.length (by omega)
  rw [show sufAt (some ⟨b, o, none⟩) cap body.length = some ⟨b, o + body.length, none⟩ by unfold sufAt; rw [if_neg (by omega)]; simp [Addr.add_mid], show body.length + 4 - body.length = 4 by omega] at s2
  have hiff := le_iff (C.sum body) c0 c1 c2 c3
  have hn : body.length + 4 ≤ 1000004 := by omega
  have y0 := byte32 c0
  have y1 := byte32 c1
  have y2 := byte32 c2
  have y3 := byte32 c3
  have m1 := (wrapu ((c1.toNat : Int) * 256)).trans (shl8 c1)
  have m2 := (wrapu ((c2.toNat : Int) * 65536)).trans (shl16 c2)
  have m3 := (wrapu ((c3.toNat : Int) * 16777216)).trans (shl24 c3)
  have o1 : bits .or .u32 (c0.toNat : Int) (N (C.z8 c1 <<< 8)) = N (C.z8 c0 ||| C.z8 c1 <<< 8) := by rw [← N_z8]; exact bits_or _ _
  have o2 := bits_or (C.z8 c0 ||| C.z8 c1 <<< 8) (C.z8 c2 <<< 16)
  have o3 : bits .or .u32 (N (C.z8 c0 ||| C.z8 c1 <<< 8 ||| C.z8 c2 <<< 16)) (N (C.z8 c3 <<< 24)) = N (unle c0 c1 c2 c3) := bits_or _ _
  generalize C.z8 c0 ||| C.z8 c1 <<< 8 ||| C.z8 c2 <<< 16 = r2 at o2 o3
  generalize C.z8 c0 ||| C.z8 c1 <<< 8 = r1 at o1 o2
  generalize C.z8 c1 <<< 8 = t1 at m1 o1
  generalize C.z8 c2 <<< 16 = t2 at m2 o2
  generalize C.z8 c3 <<< 24 = t3 at m3 o3
  generalize unle c0 c1 c2 c3 = u at o3 hiff
  have HI := hid hiff
  have q1 : IntKind.i64.wrap ((body.length : Int) + 4 - 4) = (body.length : Int) := by rw [IntKind.wrap_i64]; omega
  have q2 : IntKind.i64.wrap (body.length : Int) = (body.length : Int) := by rw [IntKind.wrap_i64]; omega
  clear hiff hsuf hpre cell hA hT e0 e1 e2 e3
  by_cases hsu : C.sum body = u
  · have HY := hid (HI.out.2 hsu)
    rw [hsu] at HS
    clear hsu
    go_enter Tryd.func35, Tryd.ntmps35
    go_wp2
    go_region_held3 (fun _ => True) (trivial) (fail)
    go_wp2
    go_region_held3 (fun w' => w'.cell? ⟨b, o + body.length, none⟩ = some (.int .u8 (c0.toNat : Int)) ∧ w'.cell? ⟨b, o + body.length + 1, none⟩ = some (.int .u8 (c1.toNat : Int)) ∧ w'.cell? ⟨b, o + body.length + 2, none⟩ = some (.int .u8 (c2.toNat : Int)) ∧ w'.cell? ⟨b, o + body.length + 3, none⟩ = some (.int .u8 (c3.toNat : Int))) (exact HE.out) (first | (go_at_call 32; refine HS.out.mono ?_; rintro e _ ⟨rfl, hw⟩; rw [hw]; clear hw))
    go_wp2_with (go_at_call 46; refine HC.out.mono ?_; rintro e w1 ⟨g, cap1, rfl, hg, hown, hA1⟩)
    go_ret2
    refine ⟨fun _ => ⟨g, cap1, rfl, hg, hown, ?_⟩, fun h => absurd HY.out h⟩
    exact (Touch.refl _ w).drew.drew.trans hA1
  · have HY := hid (fun h => hsu (HI.out.1 h))
    have hne : N (C.sum body) ≠ N u := fun h => hsu (N_inj h)
    clear hsu
    go_enter Tryd.func35, Tryd.ntmps35
    go_wp2
    go_region_held3 (fun _ => True) (trivial) (fail)
    go_wp2
    go_region_held3 (fun w' => w'.cell? ⟨b, o + body.length, none⟩ = some (.int .u8 (c0.toNat : Int)) ∧ w'.cell? ⟨b, o + body.length + 1, none⟩ = some (.int .u8 (c1.toNat : Int)) ∧ w'.cell? ⟨b, o + body.length + 2, none⟩ = some (.int .u8 (c2.toNat : Int)) ∧ w'.cell? ⟨b, o + body.length + 3, none⟩ = some (.int .u8 (c3.toNat : Int))) (exact HE.out) (first | (go_at_call 32; refine HS.out.mono ?_; rintro e _ ⟨rfl, hw⟩; rw [hw]; clear hw))
    go_wp2_with (go_at_call 46; refine HC.out.mono ?_; rintro e w1 ⟨g, cap1, rfl, hg, hown, hA1⟩)
    go_ret2
    exact ⟨fun h => absurd h HY.out, fun _ => ⟨rfl, (Touch.refl _ w).drew.drew⟩⟩
end Go.Proofs.YtahbggdidhmnfaaDoor
