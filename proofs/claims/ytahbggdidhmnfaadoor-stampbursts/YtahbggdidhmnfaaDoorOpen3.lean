/- Open and the reference's, of whatever bytes. -/
import Derived.Test.YtahbggdidhmnfaaDoorOpen2
import Derived.Deep.RegionWith
import Derived.WideShapes
namespace Go.Proofs.YtahbggdidhmnfaaDoor
open Go.RowKit

/-- What is opened. -/
def opened (bs : List UInt8) : List UInt8 := if bs.length < 4 then [] else if sealed (bs.take (bs.length - 4)) = bs then bs.take (bs.length - 4) else []
/-- Why not. -/
def openErr (bs : List UInt8) : Int := if bs.length < 4 then 21 else if sealed (bs.take (bs.length - 4)) = bs then 0 else 20

theorem four_of {l : List UInt8} (h : l.length = 4) : ∃ c0 c1 c2 c3, l = [c0, c1, c2, c3] := by
  match l, h with
  | [c0, c1, c2, c3], _ => exact ⟨c0, c1, c2, c3, rfl⟩
theorem cut4 {bs : List UInt8} (h : 4 ≤ bs.length) : ∃ body c0 c1 c2 c3, bs = body ++ [c0, c1, c2, c3] ∧ bs.take (bs.length - 4) = body := by
  obtain ⟨c0, c1, c2, c3, h4⟩ := four_of (l := bs.drop (bs.length - 4)) (by rw [List.length_drop]; omega)
  refine ⟨bs.take (bs.length - 4), c0, c1, c2, c3, ?_, rfl⟩
  rw [← h4, List.take_append_drop]
/-- What Open tells. -/
def POpen (w : World) (bs : List UInt8) (e : Ending) (w' : World) : Prop := ∃ ay cy, e = .returned (.tuple #[.slice ay (opened bs).length cy, .int .i64 (openErr bs)]) ∧ w'.ownsRow w.heap.size 5 1 (.slice ay (opened bs).length cy) (opened bs).length (S (opened bs)) ∧ Adds w w'
/-- What the reference's tells. -/
def PROpen (w : World) (bs : List UInt8) (e : Ending) (w' : World) : Prop := ∃ az cz, e = .returned (.tuple #[.slice az (opened bs).length cz, .int .i64 (openErr bs)]) ∧ At w' az (opened bs) ∧ Adds w w'

set_option maxHeartbeats 1000000 in
theorem open_short (a : Option Addr) (n cap : Nat) (hn : n < 4) (w : World) : Calls Tryd.prog 35 #[.slice a n cap] w fun e w' => e = .returned (.tuple #[.slice none 0 0, .int .i64 21]) ∧ w' = w := by
  go_enter Tryd.func35, Tryd.ntmps35
  go_wp2
  go_ret2
  exact ⟨rfl, rfl⟩
set_option maxHeartbeats 1000000 in
theorem ropen_short (a : Option Addr) (n cap : Nat) (hn : n < 4) (w : World) : Calls Tryd.prog 28 #[.slice a n cap] w fun e w' => e = .returned (.tuple #[.slice none 0 0, .int .i64 21]) ∧ w' = w := by
  go_enter Tryd.func28, Tryd.ntmps28
  go_wp2
  go_ret2
  exact ⟨rfl, rfl⟩

theorem open_any (a : Option Addr) (bs : List UInt8) (cap : Nat) (w : World) (hlen : bs.length ≤ 1000000) (hcap : bs.length ≤ cap) (hT : Tab w) (hA : At w a bs) : Calls Tryd.prog 35 #[.slice a bs.length cap] w (POpen w bs) := by
  by_cases h4 : bs.length < 4
  · refine (open_short a bs.length cap h4 w).mono ?_
    rintro e w' ⟨rfl, rfl⟩
    have e1 : opened bs = [] := by rw [opened, if_pos h4]
    have e2 : openErr bs = 21 := by rw [openErr, if_pos h4]
    refine ⟨none, 0, by rw [e1, e2]; rfl, ?_, Touch.refl _ _⟩
    rw [e1]
    exact World.ownsRow_nil _ _ _ _
  · obtain ⟨b, o, rfl⟩ := hA.ad (by omega)
    obtain ⟨body, c0, c1, c2, c3, hb, ht⟩ := cut4 (show 4 ≤ bs.length by omega)
    have hl : bs.length = body.length + 4 := by rw [hb]; simp
    have hiff : sealed body = bs ↔ le (C.sum body) = [c0, c1, c2, c3] := by rw [hb, sealed, List.append_cancel_left_eq]
    rw [hl]
    rw [hb] at hA
    refine (open_long b o cap body c0 c1 c2 c3 w (by omega) (by omega) hT hA).mono ?_
    rintro e w' ⟨hy, hno⟩
    by_cases hs : sealed body = bs
    · obtain ⟨g, cap1, rfl, hg, hown, hA1⟩ := hy (hiff.1 hs)
      have e1 : opened bs = body := by rw [opened, if_neg h4, ht, if_pos hs]
      have e2 : openErr bs = 0 := by rw [openErr, if_neg h4, ht, if_pos hs]
      exact ⟨some ⟨g, 0, none⟩, cap1, by rw [e1, e2], by rw [e1]; exact hown, hA1⟩
    · obtain ⟨rfl, hA1⟩ := hno (fun h => hs (hiff.2 h))
      have e1 : opened bs = [] := by rw [opened, if_neg h4, ht, if_neg hs]
      have e2 : openErr bs = 20 := by rw [openErr, if_neg h4, ht, if_neg hs]
      refine ⟨none, 0, by rw [e1, e2]; rfl, ?_, hA1⟩
      rw [e1]
      exact World.ownsRow_nil _ _ _ _

set_option maxRecDepth 100000 in
set_option maxHeartbeats 4000000 in
theorem ropen_long (a : Option Addr) (n cap : Nat) (x y : ByteArray) (w : World) (hn : n ≤ 1000000) (hcap : n + 4 ≤ cap) (hx : ∀ w', Adds w w' → (convert 23 9 (.slice a (n + 4) cap)).run Tryd.prog w' = .ok (.string x) w')
    (hs : Calls Tryd.prog 23 #[.slice a n cap] w.drew fun e w' => ∃ g cap2, e = .returned (.slice (some ⟨g, 0, none⟩) (n + 4) cap2) ∧ (convert 23 9 (.slice (some ⟨g, 0, none⟩) (n + 4) cap2)).run Tryd.prog w' = .ok (.string y) w' ∧ Adds w w') :
    Calls Tryd.prog 28 #[.slice a (n + 4) cap] w fun e w' => ((y = x ∧ e = .returned (.tuple #[.slice a n cap, .int .i64 0])) ∨ (y ≠ x ∧ e = .returned (.tuple #[.slice none 0 0, .int .i64 20]))) ∧ Adds w w' := by
  have HX := hid hx
  have HS := hid hs
  have hd := hx _ (Touch.refl _ w).drew
  have s1 := run_pre a (n + 4) cap n (by omega)
  have q1 : IntKind.i64.wrap ((n : Int) + 4 - 4) = (n : Int) := by rw [IntKind.wrap_i64]; omega
  have q2 : IntKind.i64.wrap (n : Int) = (n : Int) := by rw [IntKind.wrap_i64]; omega
  clear hx hs
  by_cases hxy : y = x
  · subst hxy
    go_enter Tryd.func28, Tryd.ntmps28
    go_wp2
    go_region_with (first | (go_at_call 23; refine HS.out.mono ?_; rintro e w1 ⟨g, cap2, rfl, hcv, hA1⟩; have hcw := HX.out _ hA1))
    all_goals go_wp2
    all_goals (go_ret2; exact ⟨.inl ⟨by first | rfl | trivial, rfl⟩, hA1⟩)
  · have HXY := hid hxy
    have hq : (y.toList == x.toList) = false := by
      rw [ByteArray.toList_eq, ByteArray.toList_eq, beq_eq_false_iff_ne]
      exact fun h => hxy (WideShapes.bytes_inj h)
    clear hxy
    go_enter Tryd.func28, Tryd.ntmps28
    go_wp2
    go_region_with (first | (go_at_call 23; refine HS.out.mono ?_; rintro e w1 ⟨g, cap2, rfl, hcv, hA1⟩; have hcw := HX.out _ hA1))
    all_goals go_wp2
    all_goals (go_ret2; exact ⟨.inr ⟨HXY.out, rfl⟩, hA1⟩)

theorem ropen_any (a : Option Addr) (bs : List UInt8) (cap : Nat) (w : World) (hlen : bs.length ≤ 1000000) (hcap : bs.length ≤ cap) (hA : At w a bs) : Calls Tryd.prog 28 #[.slice a bs.length cap] w (PROpen w bs) := by
  by_cases h4 : bs.length < 4
  · refine (ropen_short a bs.length cap h4 w).mono ?_
    rintro e w' ⟨rfl, rfl⟩
    have e1 : opened bs = [] := by rw [opened, if_pos h4]
    have e2 : openErr bs = 21 := by rw [openErr, if_pos h4]
    refine ⟨none, 0, by rw [e1, e2]; rfl, ?_, Touch.refl _ _⟩
    rw [e1]
    exact At.nil _ _
  · obtain ⟨b, o, rfl⟩ := hA.ad (by omega)
    have hl : bs.length = (bs.length - 4) + 4 := by omega
    have hpre := hA.pre (bs.length - 4)
    have hlt : (bs.take (bs.length - 4)).length = bs.length - 4 := by rw [List.length_take]; omega
    have hs := rseal_any (some ⟨b, o, none⟩) (bs.take (bs.length - 4)) cap w.drew (by omega) (fun e => by cases e) (hpre.adds (Touch.refl _ w).drew)
    rw [hlt] at hs
    have hcv : ∀ w', Adds w w' → (convert 23 9 (.slice (some ⟨b, o, none⟩) ((bs.length - 4) + 4) cap)).run Tryd.prog w' = .ok (.string ⟨bs.toArray⟩) w' := by
      intro w' h
      rw [← hl]
      exact conv_at w' _ bs cap (hA.adds h)
    have hcall := ropen_long (some ⟨b, o, none⟩) (bs.length - 4) cap ⟨bs.toArray⟩ ⟨(sealed (bs.take (bs.length - 4))).toArray⟩ w (by omega) (by omega) hcv (by
      refine hs.mono ?_
      rintro e w' ⟨g, cap2, rfl, hg, hown, hA'⟩
      rw [hlt] at hown
      refine ⟨g, cap2, by rw [hlt], ?_, (Touch.refl _ w).drew.trans hA'⟩
      have := conv_at w' _ _ cap2 (At.own hown)
      rw [len_sealed, hlt] at this
      exact this)
    rw [← hl] at hcall
    refine hcall.mono ?_
    rintro e w' ⟨h, hA'⟩
    have hstr : ∀ {x y : List UInt8}, ((⟨x.toArray⟩ : ByteArray) = ⟨y.toArray⟩) ↔ x = y := by
      intro x y
      constructor
      · intro h
        have := congrArg (fun b => b.data.toList) h
        simpa using this
      · intro h; rw [h]
    rcases h with ⟨he, rfl⟩ | ⟨hne, rfl⟩
    · have he' := hstr.1 he
      have e1 : opened bs = bs.take (bs.length - 4) := by rw [opened, if_neg h4, if_pos he']
      have e2 : openErr bs = 0 := by rw [openErr, if_neg h4, if_pos he']
      exact ⟨some ⟨b, o, none⟩, cap, by rw [e1, e2, hlt], by rw [e1]; exact hpre.adds hA', hA'⟩
    · have hne' : ¬ sealed (bs.take (bs.length - 4)) = bs := fun h => hne (hstr.2 h)
      have e1 : opened bs = [] := by rw [opened, if_neg h4, if_neg hne']
      have e2 : openErr bs = 20 := by rw [openErr, if_neg h4, if_neg hne']
      refine ⟨none, 0, by rw [e1, e2]; rfl, ?_, hA'⟩
      rw [e1]
      exact At.nil _ _
end Go.Proofs.YtahbggdidhmnfaaDoor
