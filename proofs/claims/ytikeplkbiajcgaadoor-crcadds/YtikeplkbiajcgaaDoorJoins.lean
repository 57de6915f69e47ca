/- The walks of CrcJoins, CrcParts, CrcAdds. -/
import Derived.Test.YtikeplkbiajcgaaDoorWorks
namespace Go.Proofs.YtikeplkbiajcgaaDoor
open Go.RowKit

namespace Jns
set_option maxRecDepth 100000 in
set_option maxHeartbeats 2000000 in
theorem walk (a b : M.V) (n : Int) (w : World) (hn : n ≤ 9223372036854775807) (hT : Tab w) : Calls Tryd.prog 4 #[.int .u32 (N a), .int .u32 (N b), .int .i64 n] w (Adding (.bool true) w) := by
  have HT := hid hT
  clear hT
  by_cases h : 3000 < n
  · go_enter Tryd.func4, Tryd.ntmps4
    go_wp2
    go_ret
    exact ⟨rfl, Touch.refl _ w⟩
  · have HN := hid hn
    have HM : Hid (n ≤ 3000) := show _ ≤ _ by omega
    go_enter Tryd.func4, Tryd.ntmps4
    go_wp2_with (first
      | (go_at_call 12; refine (noughts_any a n HN.out _).mono ?_; rintro e w1 ⟨rfl, hA1⟩)
      | (go_at_call 13; refine (rnoughts_any a n HM.out _).mono ?_; rintro e w2 ⟨rfl, hA2⟩)
      | (go_at_call 14; refine (join_any a b n HN.out _).mono ?_; rintro e w3 ⟨rfl, hA3⟩)
      | (go_at_call 15; refine (rjoin_any a b n HM.out _).mono ?_; rintro e w4 ⟨rfl, hA4⟩)
      | (go_at_call 11; refine (works_any w4 (HT.out.adds (((hA1.trans hA2).trans hA3).trans hA4))).mono ?_; rintro e w5 ⟨rfl, hA5⟩))
    go_ret
    exact ⟨rfl, (((hA1.trans hA2).trans hA3).trans hA4).trans hA5⟩
end Jns

namespace Ads
theorem rem62 (a : Int) : ∃ k : Nat, k < 4611686018427387904 ∧ (IntKind.u64.wrap a).tmod 4611686018427387904 = (k : Int) := by
  have hu : 0 ≤ IntKind.u64.wrap a := by
    simp only [IntKind.wrap]
    exact Int.emod_nonneg _ (by decide)
  rw [Int.tmod_eq_emod_of_nonneg hu]
  have e0 := Int.emod_nonneg (IntKind.u64.wrap a) (show (4611686018427387904 : Int) ≠ 0 by decide)
  have e1 := Int.emod_lt_of_pos (IntKind.u64.wrap a) (show (0 : Int) < 4611686018427387904 by decide)
  exact ⟨(IntKind.u64.wrap a % 4611686018427387904).toNat, by omega, by omega⟩
theorem rem62' (a : Int) : IntKind.u64.wrap a % 4611686018427387904 = (IntKind.u64.wrap a).tmod 4611686018427387904 := by
  rw [Int.tmod_eq_emod_of_nonneg]
  simp only [IntKind.wrap]
  exact Int.emod_nonneg _ (by decide)

/-- Which calls of Noughts tell what. -/
def Nts (a : M.V) (kn km : Nat) (x y z : Value) : Prop :=
  (x = .int .u32 (N a) ∧ y = .int .i64 0 ∧ z = .int .u32 (N a)) ∨ (x = .int .u32 (N a) ∧ y = .int .i64 (-1) ∧ z = .int .u32 (N a)) ∨ (x = .int .u32 (N a) ∧ y = .int .i64 ((kn : Int) + (km : Int)) ∧ z = .int .u32 (N (M.noughts a (kn + km)))) ∨ (x = .int .u32 (N (M.noughts a kn)) ∧ y = .int .i64 (km : Int) ∧ z = .int .u32 (N (M.noughts a (kn + km)))) ∨ (x = .int .u32 (N a) ∧ y = .int .i64 (kn : Int) ∧ z = .int .u32 (N (M.noughts a kn))) ∨ (x = .int .u32 0 ∧ y = .int .i64 (kn : Int) ∧ z = .int .u32 (N (M.noughts 0#32 kn)))
theorem Nts.zero {a : M.V} {kn km : Nat} : Nts a kn km (.int .u32 (N a)) (.int .i64 0) (.int .u32 (N a)) := .inl ⟨rfl, rfl, rfl⟩
theorem Nts.less {a : M.V} {kn km : Nat} : Nts a kn km (.int .u32 (N a)) (.int .i64 (-1)) (.int .u32 (N a)) := .inr (.inl ⟨rfl, rfl, rfl⟩)
theorem Nts.both {a : M.V} {kn km : Nat} : Nts a kn km (.int .u32 (N a)) (.int .i64 ((kn : Int) + (km : Int))) (.int .u32 (N (M.noughts a (kn + km)))) := .inr (.inr (.inl ⟨rfl, rfl, rfl⟩))
theorem Nts.two {a : M.V} {kn km : Nat} : Nts a kn km (.int .u32 (N (M.noughts a kn))) (.int .i64 (km : Int)) (.int .u32 (N (M.noughts a (kn + km)))) := .inr (.inr (.inr (.inl ⟨rfl, rfl, rfl⟩)))
theorem Nts.one {a : M.V} {kn km : Nat} : Nts a kn km (.int .u32 (N a)) (.int .i64 (kn : Int)) (.int .u32 (N (M.noughts a kn))) := .inr (.inr (.inr (.inr (.inl ⟨rfl, rfl, rfl⟩))))
theorem Nts.none {a : M.V} {kn km : Nat} : Nts a kn km (.int .u32 0) (.int .i64 (kn : Int)) (.int .u32 (N (M.noughts 0#32 kn))) := .inr (.inr (.inr (.inr (.inr ⟨rfl, rfl, rfl⟩))))

theorem nts {a : M.V} {kn km : Nat} (h1 : kn < 4611686018427387904) (h2 : km < 4611686018427387904) (w : World) (x y r : Value) (h : Nts a kn km x y r) : Calls Tryd.prog 12 #[x, y] w (Adding r w) := by
  rcases h with ⟨rfl, rfl, rfl⟩ | ⟨rfl, rfl, rfl⟩ | ⟨rfl, rfl, rfl⟩ | ⟨rfl, rfl, rfl⟩ | ⟨rfl, rfl, rfl⟩ | ⟨rfl, rfl, rfl⟩
  · have := noughts_any a 0 (by decide) w
    rw [show (0 : Int).toNat = 0 from rfl, M.noughts_zero] at this
    exact this
  · have := noughts_any a (-1) (by decide) w
    rw [show (-1 : Int).toNat = 0 from rfl, M.noughts_zero] at this
    exact this
  · have := noughts_any a ((kn : Int) + (km : Int)) (by omega) w
    rw [show ((kn : Int) + (km : Int)).toNat = kn + km by omega] at this
    exact this
  · have := noughts_any (M.noughts a kn) (km : Int) (by omega) w
    rw [Int.toNat_natCast, M.noughts_add] at this
    exact this
  · have := noughts_any a (kn : Int) (by omega) w
    rw [Int.toNat_natCast] at this
    exact this
  · have := noughts_any 0#32 (kn : Int) (by omega) w
    rw [Int.toNat_natCast] at this
    exact this

/-- Which calls of Join tell what. -/
def Jts (a b : M.V) (kn : Nat) (x z : Value) : Prop :=
  (x = .int .u32 (N a) ∧ z = .int .u32 (N (M.join a b kn))) ∨ (x = .int .u32 0 ∧ z = .int .u32 (N b))
theorem Jts.one {a b : M.V} {kn : Nat} : Jts a b kn (.int .u32 (N a)) (.int .u32 (N (M.join a b kn))) := .inl ⟨rfl, rfl⟩
theorem Jts.none {a b : M.V} {kn : Nat} : Jts a b kn (.int .u32 0) (.int .u32 (N b)) := .inr ⟨rfl, rfl⟩

theorem jts {a b : M.V} {kn : Nat} (h1 : kn < 4611686018427387904) (w : World) (x r : Value) (h : Jts a b kn x r) : Calls Tryd.prog 14 #[x, .int .u32 (N b), .int .i64 (kn : Int)] w (Adding r w) := by
  rcases h with ⟨rfl, rfl⟩ | ⟨rfl, rfl⟩
  · have := join_any a b (kn : Int) (by omega) w
    rw [Int.toNat_natCast] at this
    exact this
  · have := join_any 0#32 b (kn : Int) (by omega) w
    rw [Int.toNat_natCast, M.join_zero] at this
    exact this

set_option maxRecDepth 100000 in
set_option maxHeartbeats 4000000 in
theorem walk (a b : M.V) (n m : Int) (w : World) (hT : Tab w) : Calls Tryd.prog 7 #[.int .u32 (N a), .int .u32 (N b), .int .i64 n, .int .i64 m] w (Adding (.bool true) w) := by
  have HW := hid (works_any w hT)
  clear hT
  obtain ⟨kn, hkn, en⟩ := rem62 n
  obtain ⟨km, hkm, em⟩ := rem62 m
  have en' := (rem62' n).trans en
  have em' := (rem62' m).trans em
  have HN := hid (nts (a := a) hkn hkm)
  have HJ := hid (jts (a := a) (b := b) hkn)
  have x1 := bits_xor (M.noughts a kn) b
  have x2 := bits_xor (M.noughts a kn ^^^ b) (M.noughts 0#32 kn)
  rw [M.join_noughts] at x2
  go_enter Tryd.func7, Tryd.ntmps7
  go_wp2_with (first
    | (go_at_call 11; refine HW.out.mono ?_; rintro e w1 ⟨rfl, hA1⟩)
    | (go_at_call 12; refine (HN.out _ _ _ _ (by first | exact .zero | exact .less | exact .both | exact .two | exact .one | exact .none)).mono ?_; rintro e w2 ⟨rfl, h'⟩; replace hA1 := hA1.trans h'; clear h')
    | (go_at_call 14; refine (HJ.out _ _ _ (by first | exact .one | exact .none)).mono ?_; rintro e w2 ⟨rfl, h'⟩; replace hA1 := hA1.trans h'; clear h'))
  go_ret
  exact ⟨rfl, hA1⟩
end Ads
end Go.Proofs.YtikeplkbiajcgaaDoor
