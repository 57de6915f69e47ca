/- The reference's Pending, Ints and Put. -/
import Derived.Test.YtjjknckcodhnmaaRef2
import Derived.Test.YtjjknckcodhnmaaUn
import Derived.Test.YtjjknckcodhnmaaLose
import Derived.Deep.QuietTactic
import Derived.BigQuiet
namespace Go.Proofs.Ytjjknckcodhnmaa
open Go.RowKit

/-- Numbers as cells. -/
def I64s (zs : List Int) : List Value := zs.map (Value.int .i64)
/-- The sectors of the writes that wait. -/
def places (W : List (Int × List UInt8)) : List Int := W.map (·.1)

theorem info3all : ∃ i, Try.prog.info? 3 = some i ∧ i.zero = some (.int .i64 0) ∧ i.size = 1 ∧ i.bytes = 8 := by
  have h : (Try.prog.info? 3).map (fun i => (i.zero, i.size, i.bytes)) = some (some (.int .i64 0), 1, 8) := by kernel_rfl
  cases hq : Try.prog.info? 3 with
  | none => rw [hq] at h; cases h
  | some i =>
    rw [hq] at h
    simp only [Option.map_some, Option.some.injEq, Prod.mk.injEq] at h
    exact ⟨i, rfl, h.1, h.2.1, h.2.2⟩
theorem one_int (z : Int) : ∀ u ∈ [Value.int .i64 z], u.oneCell' = true := fun u hu => by obtain rfl := List.mem_singleton.1 hu; rfl
theorem places_snoc (W : List (Int × List UInt8)) (k : Nat) (h : k < W.length) : I64s (places (W.take k)) ++ [.int .i64 W[k].1] = I64s (places (W.take (k + 1))) := by
  rw [List.take_add_one, List.getElem?_eq_getElem h, Option.toList_some]
  simp only [I64s, places, List.map_append, List.map_cons, List.map_nil]

/-- What Pending tells: numbers in new memory. -/
def PPend (w : World) (zs : List Int) (e : Ending) (w' : World) : Prop := ∃ v, e = .returned v ∧ w'.ownsRow w.heap.size 3 1 v zs.length (I64s zs) ∧ Adds w w'

set_option maxRecDepth 100000 in
set_option maxHeartbeats 1000000 in
theorem rpending_any (B p : Nat) (hv wv : Value) (D : St) (w : World) (hd : IsRef w B p hv wv D) (hl : D.W.length ≤ 1000) :
    Calls Try.prog 37 #[.pointer (some ⟨p, 0, none⟩)] w (PPend w (places D.W)) := by
  obtain ⟨ao, wcap, rfl, hwcap, hrest⟩ := hd.waitAt
  obtain ⟨i3, hi3, hz0, hz1, hz2⟩ := info3all
  have c1 : w.cell? ⟨p, 1, none⟩ = some (.slice ao D.W.length wcap) := cellOf hd.box 1
  have HR := hid hrest
  clear hd hrest
  go_enter Try.func37, Try.ntmps37
  go_wp2
  go_loopw [3, 4] (fun v t wr => ∃ k : Nat, k ≤ D.W.length ∧ t = .int .i64 k ∧ Hid (wr.ownsRow w.heap.size 3 1 v k (I64s (places (D.W.take k))) ∧ Adds w wr)) (fun _ t _ => D.W.length - (intOf t).toNat)
  case atStart => exact ⟨0, Nat.zero_le _, rfl, World.ownsRow_nil _ _ _ _, Touch.refl _ _⟩
  case round =>
    rename Value => v
    obtain ⟨k, hk, rfl, HH⟩ := hrel
    have c1r : wr.cell? ⟨p, 1, none⟩ = some (.slice ao D.W.length wcap) := below_adds HH.out.2 c1
    by_cases hlt : k < D.W.length
    · obtain ⟨gw, rfl, _, hc, _⟩ := HR.out (by omega)
      have hc0 : wr.cell? ⟨gw, k * 2, none⟩ = some (.int .i64 D.W[k].1) := below_adds HH.out.2 (hc k hlt).1
      have HSN := hid (places_snoc D.W k hlt)
      have HOWN := hid (HH.out.1.alloc (.cells #[.int .i64 D.W[k].1] 3))
      have H3 := hid (show k + 1 ≤ maxLen by unfold maxLen; omega)
      have H4 := hid (show (k + 1) * 8 ≤ 140737488355328 by omega)
      have H5 := hid (show w.heap.size ≤ (wr.alloc (.cells #[.int .i64 D.W[k].1] 3)).heap.size by have := HH.out.2.size; simp; omega)
      clear hc HR c1
      go_wp2_with (at_builtin; refine wpList_append_own _ rfl _ _ 57 rfl w.heap.size 3 i3 (.int .i64 0) 1 8 Try.underlying57 hi3 hz0 hz1 hz2 rfl (by decide) _ k (I64s (places (D.W.take k))) rfl HOWN.out ⟨wr.heap.size, 0, none⟩ 1 1 [.int .i64 D.W[k].1] rfl rfl (cell_one_new _ _ _) (one_int _) H3.out H4.out H5.out ?_; intro v' w3 hown' hgrow' _; obtain ⟨g', cap', rfl⟩ := own_some hown')
      go_roundw
      case rel =>
        refine ⟨k + 1, by omega, by go_num, ?_, ?_⟩
        · rw [HSN.out] at hown'; exact hown'
        · exact Touch.grown (T := fun _ => False) (HH.out.2.alloc _) hgrow' (fun j hj hlt => by have := (HH.out.1.lt j hj).1; omega)
      case measure => simp [intOf]; omega
    · obtain rfl : k = D.W.length := by omega
      go_wp2
      go_ret
      refine ⟨_, rfl, ?_, HH.out.2⟩
      have := HH.out.1
      rw [List.take_length] at this
      rw [show (places D.W).length = D.W.length from List.length_map _]; exact this

/-- Where numbers lie. -/
def IntsAt (w : World) (a : Option Addr) (zs : List Int) : Prop := ∀ j (h : j < zs.length), ∃ b o, a = some ⟨b, o, none⟩ ∧ w.cell? ⟨b, o + j, none⟩ = some (.int .i64 zs[j])
theorem own_ints {w : World} {B : Nat} {v : Value} {zs : List Int} (h : w.ownsRow B 3 1 v zs.length (I64s zs)) : ∃ a cap, v = .slice a zs.length cap ∧ IntsAt w a zs := by
  rcases h.2 with ⟨e, hn⟩ | ⟨g, cap, cur, e, _, hgg, hnc, _⟩
  · exact ⟨none, 0, by rw [e, hn], fun j hj => by omega⟩
  · have hh := h
    rw [e] at hh
    refine ⟨some ⟨g, 0, none⟩, cap, e, fun j hj => ⟨g, 0, rfl, ?_⟩⟩
    rw [Nat.zero_add, hh.cellAt j (by omega)]
    simp [I64s, hj]

set_option maxRecDepth 100000 in
set_option maxHeartbeats 1000000 in
theorem ints_same (a b : Option Addr) (ca cb : Nat) (zs : List Int) (w : World) (h1 : IntsAt w a zs) (h2 : IntsAt w b zs) (hl : zs.length ≤ 1000) :
    Calls Try.prog 36 #[.slice a zs.length ca, .slice b zs.length cb] w fun e w' => e = .returned (.bool true) ∧ Adds w w' := by
  have H1 := hid h1
  have H2 := hid h2
  clear h1 h2
  go_enter Try.func36, Try.ntmps36
  go_wp2
  go_loopw [5] (fun t wr => ∃ k : Nat, k ≤ zs.length ∧ t = .int .i64 k ∧ Adds w wr ∧ wr.heap = w.heap) (fun t _ => zs.length - (intOf t).toNat)
  case atStart => exact ⟨0, Nat.zero_le _, rfl, Touch.refl _ _, rfl⟩
  case round =>
    obtain ⟨k, hk, rfl, hA, hh⟩ := hrel
    by_cases hlt : k < zs.length
    · obtain ⟨b1, o1, rfl, e1⟩ := H1.out k hlt
      obtain ⟨b2, o2, rfl, e2⟩ := H2.out k hlt
      rw [← cell_heap hh] at e1 e2
      clear H1 H2
      go_wp2
      go_quiet (fail)
      go_wp2
      go_roundw
      case rel => exact ⟨k + 1, by omega, by go_num, hA.trans (adds_drewN wr nq).1, by rw [(adds_drewN wr nq).2]; exact hh⟩
      case measure => simp [intOf]; omega
    · obtain rfl : k = zs.length := by omega
      go_wp2
      go_ret
      exact ⟨rfl, hA⟩

set_option maxHeartbeats 400000 in
theorem rput_bad (B p : Nat) (hv wv : Value) (D : St) (i : Int) (bs : List UInt8) (w : World) (hd : IsRef w B p hv wv D) (hi : ¬ (0 ≤ i ∧ i < D.size) ∨ bs.length ≠ 256) :
    Calls Try.prog 13 #[.pointer (some ⟨p, 0, none⟩), .int .i64 i, Str bs] w fun e w' => e = .returned (.int .i64 2) ∧ w' = w := by
  obtain ⟨g, cap, rfl, hcap, _, _, _⟩ := hd.heldAt
  have hs := hd.size
  have c0 : w.cell? ⟨p, 0, none⟩ = some (.slice (some ⟨g, 0, none⟩) D.size.toNat cap) := cellOf hd.box 0
  have hq : ((D.size.toNat : Nat) : Int) = D.size := Int.toNat_of_nonneg (by have := hs.1; clear hd c0; omega)
  clear hd
  unfold Str
  by_cases h0 : i < 0
  · go_enter Try.func13, Try.ntmps13
    go_wp2
    go_ret
    exact ⟨rfl, rfl⟩
  · by_cases h1 : D.size ≤ i
    · have h2 : decide (D.size ≤ i) = true := by simpa using h1
      clear hi
      go_enter Try.func13, Try.ntmps13
      go_wp2
      go_ret
      exact ⟨rfl, rfl⟩
    · have h2 : decide (D.size ≤ i) = false := by simp; omega
      have h3 : bs.length ≠ 256 := by rcases hi with h | h; exact absurd ⟨by omega, by omega⟩ h; exact h
      have h4 : ((bs.length : Int) == 256) = false := by simp; omega
      have h5 : (⟨bs.toArray⟩ : ByteArray).size = bs.length := by simp [ByteArray.size]
      clear hi h3
      go_enter Try.func13, Try.ntmps13
      go_wp2
      go_ret
      exact ⟨rfl, rfl⟩

set_option maxHeartbeats 400000 in
theorem rput_off (B p : Nat) (hv wv : Value) (D : St) (i : Int) (bs : List UInt8) (w : World) (hd : IsRef w B p hv wv D) (hi : 0 ≤ i ∧ i < D.size) (hbs : bs.length = 256) (hon : D.left = 0) :
    Calls Try.prog 13 #[.pointer (some ⟨p, 0, none⟩), .int .i64 i, Str bs] w fun e w' => e = .returned (.int .i64 10) ∧ w' = w := by
  obtain ⟨g, cap, rfl, hcap, _, _, _⟩ := hd.heldAt
  have hs := hd.size
  have c0 : w.cell? ⟨p, 0, none⟩ = some (.slice (some ⟨g, 0, none⟩) D.size.toNat cap) := cellOf hd.box 0
  have c3 : w.cell? ⟨p, 3, none⟩ = some (.int .i64 D.left) := cellOf hd.box 3
  rw [hon] at c3
  have hq : ((D.size.toNat : Nat) : Int) = D.size := Int.toNat_of_nonneg (by have := hs.1; clear hd c0 c3; omega)
  have h0 : ¬ i < 0 := by omega
  have h2 : decide (D.size ≤ i) = false := by simp; omega
  have h5 : (⟨bs.toArray⟩ : ByteArray).size = 256 := by simp [ByteArray.size, hbs]
  clear hd hi
  unfold Str
  go_enter Try.func13, Try.ntmps13
  go_wp2
  go_ret
  exact ⟨rfl, rfl⟩

end Go.Proofs.Ytjjknckcodhnmaa
