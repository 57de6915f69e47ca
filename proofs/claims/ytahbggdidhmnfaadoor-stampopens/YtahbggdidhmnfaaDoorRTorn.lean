/- The reference's zero and Torn. -/
import Derived.Test.YtahbggdidhmnfaaDoorSec2
namespace Go.Proofs.YtahbggdidhmnfaaDoor
open Go.RowKit

set_option maxRecDepth 100000 in
set_option maxHeartbeats 1000000 in
theorem rzero_any (a : Option Addr) (cs : List UInt8) (cap : Nat) (w : World) (hA : At w a cs) (hl : cs.length ≤ 1000) (z : Bool) (hz : (!M.some0 cs) = z) : Calls Tryd.prog 27 #[.slice a cs.length cap] w (Tells (.bool z) w) := by
  have HA := hid hA
  have HZZ := hid hz
  clear hA hz
  go_enter Tryd.func27, Tryd.ntmps27
  go_wp2_with fail
  go_loopw [3] (fun iv wr => ∃ i : Nat, iv = .int .i64 (i : Int) ∧ i ≤ cs.length ∧ Hid (M.some0 (cs.take i) = false) ∧ wr = w) (fun iv _ => cs.length - (intOf iv).toNat)
  case atStart => exact ⟨0, rfl, Nat.zero_le _, hid (show M.some0 (cs.take 0) = false from rfl), rfl⟩
  case round =>
    obtain ⟨i, rfl, hi, HI, hw⟩ := hrel
    obtain rfl := hw.symm
    by_cases hlt : i < cs.length
    · have hltz : (i : Int) < (cs.length : Int) := by omega
      obtain ⟨c, hc⟩ : ∃ c, cs[i]? = some c := ⟨cs[i], List.getElem?_eq_getElem hlt⟩
      obtain ⟨b, o, ea, c0⟩ := HA.out i c hc
      subst ea
      obtain ⟨q, hq⟩ : ∃ q, (c != 0) = q := ⟨_, rfl⟩
      have HZ := hid (And.intro hq hc)
      clear hq hc
      cases q with
      | false =>
        obtain rfl : c = 0 := by simpa using HZ.out.1
        go_wp2_with fail
        go_roundw
        case rel => exact ⟨i + 1, by go_num, by omega, some0_take HZ.out.2 HI.out HZ.out.1, by first | rfl | trivial⟩
        case measure => simp [intOf]; omega
      | true =>
        have hne : ((c.toNat : Int) != 0) = true := bne_iff_ne.2 (fun e => by
          have h0 : c = 0 := UInt8.toNat_inj.1 (by simpa using (show c.toNat = 0 by omega))
          have := HZ.out.1
          rw [h0] at this
          cases this)
        go_wp2_with fail
        go_ret
        refine ⟨?_, rfl⟩
        rw [← HZZ.out, some0_yes HZ.out.2 HZ.out.1]; rfl
    · have hltz : ¬ (i : Int) < (cs.length : Int) := by omega
      have HN := hid (show M.some0 cs = false by have := HI.out; rw [List.take_of_length_le (by omega)] at this; exact this)
      go_wp2_with fail
      go_ret
      refine ⟨?_, rfl⟩
      rw [← HZZ.out, HN.out]; rfl

/-- A byte put behind bytes of one's own. -/
theorem own_snoc {w : World} {base : Nat} {v : Value} {k : List UInt8} {c : UInt8} {l : List UInt8} (hl : l = k ++ [c]) (h : w.ownsRow base 5 1 v (k.length + [c].length) (S k ++ S [c])) : w.ownsRow base 5 1 v l.length (S l) := by
  subst hl
  rw [List.length_append, S, List.map_append]; exact h
theorem drop_next {x : List UInt8} {j c : Nat} {u : UInt8} (h : x[j]? = some u) (hc : c ≤ j) : (x.take (j + 1)).drop c = (x.take j).drop c ++ [u] := by
  have hj := (List.getElem?_eq_some_iff.1 h).1
  rw [take_next h, List.drop_append_of_le_length (by rw [List.length_take]; omega)]
theorem drop_skip {x : List UInt8} {j c : Nat} (hc : j < c) : (x.take (j + 1)).drop c = (x.take j).drop c := by
  rw [List.drop_eq_nil_of_le (by rw [List.length_take]; omega), List.drop_eq_nil_of_le (by rw [List.length_take]; omega)]

set_option maxRecDepth 100000 in
set_option maxHeartbeats 4000000 in
theorem rtorn_hi (a : Option Addr) (x : List UInt8) (cap : Nat) (b : Option Addr) (y : List UInt8) (cap2 : Nat) (z : Int) (c : Nat) (hz : 256 < z) (hc : ∀ k : Nat, (k : Int) < (256 : Int) ↔ k < c) (w : World) (hx : x.length ≤ 1000) (hy : y.length ≤ 1000) (hA : At w a x) (hB : At w b y) :
    Calls Tryd.prog 14 #[.slice a x.length cap, .slice b y.length cap2, .int .i64 z] w (POwn w (y.take c ++ x.drop c)) := by
  have HAB := hid (And.intro hA hB)
  have HC := hid hc
  clear hA hB hc
  go_enter Tryd.func14, Tryd.ntmps14
  go_wp2_with fail
  go_loopw [7, 8] (fun v i wz => ∃ k : Nat, k ≤ y.length ∧ k ≤ c ∧ i = .int .i64 (k : Int) ∧ Hid (wz.ownsRow w.heap.size 5 1 v (y.take k).length (S (y.take k)) ∧ Adds w wz)) (fun _ i _ => y.length - (intOf i).toNat)
  case atStart => exact ⟨0, by omega, by omega, rfl, World.ownsRow_nil _ _ _ _, Touch.refl _ _⟩
  case round =>
    obtain ⟨k, hk, hkc, rfl, HI⟩ := hrel
    by_cases hlt : k < y.length ∧ k < c
    · obtain ⟨h1, h2⟩ := hlt
      have g1 : (k : Int) < (y.length : Int) := by omega
      have g2 : (k : Int) < (256 : Int) := (HC.out k).2 h2
      obtain ⟨u, hu⟩ : ∃ u, y[k]? = some u := ⟨y[k], List.getElem?_eq_getElem h1⟩
      obtain ⟨bb, o, ea, c0⟩ := (HAB.out.2.adds HI.out.2) k u hu
      subst ea
      have HN := hid (take_next hu)
      have hlk : (y.take k).length = k := by rw [List.length_take]; omega
      have HO := hid (HI.out.1.kept (World.grownBy_alloc wr (.cells #[.int .u8 (u.toNat : Int)] 5) none) (own_none _))
      have HLK := hid hlk
      clear hu hlk
      obtain ⟨l, hl⟩ : ∃ l, l = y.take k := ⟨_, rfl⟩
      rw [← hl] at HO HI HN HLK
      clear hl
      go_wp2_with (first
        | (at_builtin; refine append_bytes rfl _ _ rfl w.heap.size _ l.length (S l) rfl HO.out (some ⟨wr.heap.size, 0, none⟩) [u] 1 rfl (fun e => by cases e) (At.one wr u) (by have := HLK.out; simp; omega) (by have := HI.out.2.size; simp; omega) ?_; intro v1 w1 hown1 hgrow1 hne1; have Q1 := hid (And.intro hown1 (show Adds w w1 from Touch.grown (HI.out.2.alloc _) hgrow1 (fun j hj hlt => by have := (HI.out.1.lt j hj).1; omega))); clear hown1 hgrow1 hne1))
      go_roundw
      case rel => exact ⟨k + 1, by omega, by omega, by go_num, own_snoc HN.out Q1.out.1, Q1.out.2⟩
      case measure => simp [intOf]; omega
    · have HT := hid (show y.take k = y.take c by
        by_cases hkl : k < y.length
        · rw [show k = c by omega]
        · rw [List.take_of_length_le (by omega), List.take_of_length_le (by omega)])
      rw [HT.out] at HI
      clear HT
      have g : ¬ ((k : Int) < (y.length : Int)) ∨ ((k : Int) < (y.length : Int) ∧ ¬ ((k : Int) < (256 : Int))) := by
        by_cases hkl : k < y.length
        · exact .inr ⟨by omega, fun h => hlt ⟨hkl, (HC.out k).1 h⟩⟩
        · exact .inl (by omega)
      clear hlt
      have HI2 := hid HI.out
      clear HI
      rcases g with g | ⟨g, g'⟩
      · go_wp2_with fail
        go_loopw [7, 9] (fun v i wz => ∃ j : Nat, j ≤ x.length ∧ i = .int .i64 (j : Int) ∧ Hid (wz.ownsRow w.heap.size 5 1 v (y.take c ++ (x.take j).drop c).length (S (y.take c ++ (x.take j).drop c)) ∧ Adds w wz)) (fun _ i _ => x.length - (intOf i).toNat)
        case atStart => exact ⟨0, by omega, rfl, by rw [List.take_zero, List.drop_nil, List.append_nil]; exact HI2.out⟩
        case round =>
          obtain ⟨j, hj, rfl, HI⟩ := hrel
          by_cases hlt : j < x.length
          · have g1 : (j : Int) < (x.length : Int) := by omega
            obtain ⟨u, hu⟩ : ∃ u, x[j]? = some u := ⟨x[j], List.getElem?_eq_getElem hlt⟩
            obtain ⟨bb, o, ea, c0⟩ := (HAB.out.1.adds HI.out.2) j u hu
            subst ea
            by_cases hjc : j < c
            · have g2 : (j : Int) < (256 : Int) := (HC.out j).2 hjc
              have HN := hid (drop_skip (x := x) hjc)
              clear hu
              go_wp2_with fail
              go_roundw
              case rel => exact ⟨j + 1, by omega, by go_num, by rw [HN.out]; exact HI.out⟩
              case measure => simp [intOf]; omega
            · have g2 : (256 : Int) ≤ (j : Int) := Int.not_lt.1 (fun h => hjc ((HC.out j).1 h))
              have HN := hid (show y.take c ++ (x.take (j + 1)).drop c = (y.take c ++ (x.take j).drop c) ++ [u] by rw [drop_next hu (by omega), List.append_assoc])
              have hlk : (y.take c ++ (x.take j).drop c).length ≤ 2000 := by rw [List.length_append, List.length_take, List.length_drop, List.length_take]; omega
              have HO := hid (HI.out.1.kept (World.grownBy_alloc wr (.cells #[.int .u8 (u.toNat : Int)] 5) none) (own_none _))
              clear hu
              obtain ⟨l, hl⟩ : ∃ l, l = y.take c ++ (x.take j).drop c := ⟨_, rfl⟩
              rw [← hl] at HO HI HN hlk
              clear hl
              go_wp2_with (first
                | (at_builtin; refine append_bytes rfl _ _ rfl w.heap.size _ l.length (S l) rfl HO.out (some ⟨wr.heap.size, 0, none⟩) [u] 1 rfl (fun e => by cases e) (At.one wr u) (by simp; omega) (by have := HI.out.2.size; simp; omega) ?_; intro v1 w1 hown1 hgrow1 hne1; have Q1 := hid (And.intro hown1 (show Adds w w1 from Touch.grown (HI.out.2.alloc _) hgrow1 (fun j hj hlt => by have := (HI.out.1.lt j hj).1; omega))); clear hown1 hgrow1 hne1))
              go_roundw
              case rel => exact ⟨j + 1, by omega, by go_num, own_snoc HN.out Q1.out.1, Q1.out.2⟩
              case measure => simp [intOf]; omega
          · obtain rfl : j = x.length := by omega
            go_wp2_with fail
            go_ret
            have h := HI.out
            rw [List.take_length] at h
            exact ⟨_, rfl, h⟩
      · go_wp2_with fail
        go_loopw [7, 9] (fun v i wz => ∃ j : Nat, j ≤ x.length ∧ i = .int .i64 (j : Int) ∧ Hid (wz.ownsRow w.heap.size 5 1 v (y.take c ++ (x.take j).drop c).length (S (y.take c ++ (x.take j).drop c)) ∧ Adds w wz)) (fun _ i _ => x.length - (intOf i).toNat)
        case atStart => exact ⟨0, by omega, rfl, by rw [List.take_zero, List.drop_nil, List.append_nil]; exact HI2.out⟩
        case round =>
          obtain ⟨j, hj, rfl, HI⟩ := hrel
          by_cases hlt : j < x.length
          · have g1 : (j : Int) < (x.length : Int) := by omega
            obtain ⟨u, hu⟩ : ∃ u, x[j]? = some u := ⟨x[j], List.getElem?_eq_getElem hlt⟩
            obtain ⟨bb, o, ea, c0⟩ := (HAB.out.1.adds HI.out.2) j u hu
            subst ea
            by_cases hjc : j < c
            · have g2 : (j : Int) < (256 : Int) := (HC.out j).2 hjc
              have HN := hid (drop_skip (x := x) hjc)
              clear hu
              go_wp2_with fail
              go_roundw
              case rel => exact ⟨j + 1, by omega, by go_num, by rw [HN.out]; exact HI.out⟩
              case measure => simp [intOf]; omega
            · have g2 : (256 : Int) ≤ (j : Int) := Int.not_lt.1 (fun h => hjc ((HC.out j).1 h))
              have HN := hid (show y.take c ++ (x.take (j + 1)).drop c = (y.take c ++ (x.take j).drop c) ++ [u] by rw [drop_next hu (by omega), List.append_assoc])
              have hlk : (y.take c ++ (x.take j).drop c).length ≤ 2000 := by rw [List.length_append, List.length_take, List.length_drop, List.length_take]; omega
              have HO := hid (HI.out.1.kept (World.grownBy_alloc wr (.cells #[.int .u8 (u.toNat : Int)] 5) none) (own_none _))
              clear hu
              obtain ⟨l, hl⟩ : ∃ l, l = y.take c ++ (x.take j).drop c := ⟨_, rfl⟩
              rw [← hl] at HO HI HN hlk
              clear hl
              go_wp2_with (first
                | (at_builtin; refine append_bytes rfl _ _ rfl w.heap.size _ l.length (S l) rfl HO.out (some ⟨wr.heap.size, 0, none⟩) [u] 1 rfl (fun e => by cases e) (At.one wr u) (by simp; omega) (by have := HI.out.2.size; simp; omega) ?_; intro v1 w1 hown1 hgrow1 hne1; have Q1 := hid (And.intro hown1 (show Adds w w1 from Touch.grown (HI.out.2.alloc _) hgrow1 (fun j hj hlt => by have := (HI.out.1.lt j hj).1; omega))); clear hown1 hgrow1 hne1))
              go_roundw
              case rel => exact ⟨j + 1, by omega, by go_num, own_snoc HN.out Q1.out.1, Q1.out.2⟩
              case measure => simp [intOf]; omega
          · obtain rfl : j = x.length := by omega
            go_wp2_with fail
            go_ret
            have h := HI.out
            rw [List.take_length] at h
            exact ⟨_, rfl, h⟩
set_option maxRecDepth 100000 in
set_option maxHeartbeats 4000000 in
theorem rtorn_lo (a : Option Addr) (x : List UInt8) (cap : Nat) (b : Option Addr) (y : List UInt8) (cap2 : Nat) (z : Int) (c : Nat) (hz : z ≤ 256) (hc : ∀ k : Nat, (k : Int) < z ↔ k < c) (w : World) (hx : x.length ≤ 1000) (hy : y.length ≤ 1000) (hA : At w a x) (hB : At w b y) :
    Calls Tryd.prog 14 #[.slice a x.length cap, .slice b y.length cap2, .int .i64 z] w (POwn w (y.take c ++ x.drop c)) := by
  have HAB := hid (And.intro hA hB)
  have HC := hid hc
  clear hA hB hc
  go_enter Tryd.func14, Tryd.ntmps14
  go_wp2_with fail
  go_loopw [7, 8] (fun v i wz => ∃ k : Nat, k ≤ y.length ∧ k ≤ c ∧ i = .int .i64 (k : Int) ∧ Hid (wz.ownsRow w.heap.size 5 1 v (y.take k).length (S (y.take k)) ∧ Adds w wz)) (fun _ i _ => y.length - (intOf i).toNat)
  case atStart => exact ⟨0, by omega, by omega, rfl, World.ownsRow_nil _ _ _ _, Touch.refl _ _⟩
  case round =>
    obtain ⟨k, hk, hkc, rfl, HI⟩ := hrel
    by_cases hlt : k < y.length ∧ k < c
    · obtain ⟨h1, h2⟩ := hlt
      have g1 : (k : Int) < (y.length : Int) := by omega
      have g2 : (k : Int) < z := (HC.out k).2 h2
      obtain ⟨u, hu⟩ : ∃ u, y[k]? = some u := ⟨y[k], List.getElem?_eq_getElem h1⟩
      obtain ⟨bb, o, ea, c0⟩ := (HAB.out.2.adds HI.out.2) k u hu
      subst ea
      have HN := hid (take_next hu)
      have hlk : (y.take k).length = k := by rw [List.length_take]; omega
      have HO := hid (HI.out.1.kept (World.grownBy_alloc wr (.cells #[.int .u8 (u.toNat : Int)] 5) none) (own_none _))
      have HLK := hid hlk
      clear hu hlk
      obtain ⟨l, hl⟩ : ∃ l, l = y.take k := ⟨_, rfl⟩
      rw [← hl] at HO HI HN HLK
      clear hl
      go_wp2_with (first
        | (at_builtin; refine append_bytes rfl _ _ rfl w.heap.size _ l.length (S l) rfl HO.out (some ⟨wr.heap.size, 0, none⟩) [u] 1 rfl (fun e => by cases e) (At.one wr u) (by have := HLK.out; simp; omega) (by have := HI.out.2.size; simp; omega) ?_; intro v1 w1 hown1 hgrow1 hne1; have Q1 := hid (And.intro hown1 (show Adds w w1 from Touch.grown (HI.out.2.alloc _) hgrow1 (fun j hj hlt => by have := (HI.out.1.lt j hj).1; omega))); clear hown1 hgrow1 hne1))
      go_roundw
      case rel => exact ⟨k + 1, by omega, by omega, by go_num, own_snoc HN.out Q1.out.1, Q1.out.2⟩
      case measure => simp [intOf]; omega
    · have HT := hid (show y.take k = y.take c by
        by_cases hkl : k < y.length
        · rw [show k = c by omega]
        · rw [List.take_of_length_le (by omega), List.take_of_length_le (by omega)])
      rw [HT.out] at HI
      clear HT
      have g : ¬ ((k : Int) < (y.length : Int)) ∨ ((k : Int) < (y.length : Int) ∧ ¬ ((k : Int) < z)) := by
        by_cases hkl : k < y.length
        · exact .inr ⟨by omega, fun h => hlt ⟨hkl, (HC.out k).1 h⟩⟩
        · exact .inl (by omega)
      clear hlt
      have HI2 := hid HI.out
      clear HI
      rcases g with g | ⟨g, g'⟩
      · go_wp2_with fail
        go_loopw [7, 9] (fun v i wz => ∃ j : Nat, j ≤ x.length ∧ i = .int .i64 (j : Int) ∧ Hid (wz.ownsRow w.heap.size 5 1 v (y.take c ++ (x.take j).drop c).length (S (y.take c ++ (x.take j).drop c)) ∧ Adds w wz)) (fun _ i _ => x.length - (intOf i).toNat)
        case atStart => exact ⟨0, by omega, rfl, by rw [List.take_zero, List.drop_nil, List.append_nil]; exact HI2.out⟩
        case round =>
          obtain ⟨j, hj, rfl, HI⟩ := hrel
          by_cases hlt : j < x.length
          · have g1 : (j : Int) < (x.length : Int) := by omega
            obtain ⟨u, hu⟩ : ∃ u, x[j]? = some u := ⟨x[j], List.getElem?_eq_getElem hlt⟩
            obtain ⟨bb, o, ea, c0⟩ := (HAB.out.1.adds HI.out.2) j u hu
            subst ea
            by_cases hjc : j < c
            · have g2 : (j : Int) < z := (HC.out j).2 hjc
              have HN := hid (drop_skip (x := x) hjc)
              clear hu
              go_wp2_with fail
              go_roundw
              case rel => exact ⟨j + 1, by omega, by go_num, by rw [HN.out]; exact HI.out⟩
              case measure => simp [intOf]; omega
            · have g2 : z ≤ (j : Int) := Int.not_lt.1 (fun h => hjc ((HC.out j).1 h))
              have HN := hid (show y.take c ++ (x.take (j + 1)).drop c = (y.take c ++ (x.take j).drop c) ++ [u] by rw [drop_next hu (by omega), List.append_assoc])
              have hlk : (y.take c ++ (x.take j).drop c).length ≤ 2000 := by rw [List.length_append, List.length_take, List.length_drop, List.length_take]; omega
              have HO := hid (HI.out.1.kept (World.grownBy_alloc wr (.cells #[.int .u8 (u.toNat : Int)] 5) none) (own_none _))
              clear hu
              obtain ⟨l, hl⟩ : ∃ l, l = y.take c ++ (x.take j).drop c := ⟨_, rfl⟩
              rw [← hl] at HO HI HN hlk
              clear hl
              go_wp2_with (first
                | (at_builtin; refine append_bytes rfl _ _ rfl w.heap.size _ l.length (S l) rfl HO.out (some ⟨wr.heap.size, 0, none⟩) [u] 1 rfl (fun e => by cases e) (At.one wr u) (by simp; omega) (by have := HI.out.2.size; simp; omega) ?_; intro v1 w1 hown1 hgrow1 hne1; have Q1 := hid (And.intro hown1 (show Adds w w1 from Touch.grown (HI.out.2.alloc _) hgrow1 (fun j hj hlt => by have := (HI.out.1.lt j hj).1; omega))); clear hown1 hgrow1 hne1))
              go_roundw
              case rel => exact ⟨j + 1, by omega, by go_num, own_snoc HN.out Q1.out.1, Q1.out.2⟩
              case measure => simp [intOf]; omega
          · obtain rfl : j = x.length := by omega
            go_wp2_with fail
            go_ret
            have h := HI.out
            rw [List.take_length] at h
            exact ⟨_, rfl, h⟩
      · go_wp2_with fail
        go_loopw [7, 9] (fun v i wz => ∃ j : Nat, j ≤ x.length ∧ i = .int .i64 (j : Int) ∧ Hid (wz.ownsRow w.heap.size 5 1 v (y.take c ++ (x.take j).drop c).length (S (y.take c ++ (x.take j).drop c)) ∧ Adds w wz)) (fun _ i _ => x.length - (intOf i).toNat)
        case atStart => exact ⟨0, by omega, rfl, by rw [List.take_zero, List.drop_nil, List.append_nil]; exact HI2.out⟩
        case round =>
          obtain ⟨j, hj, rfl, HI⟩ := hrel
          by_cases hlt : j < x.length
          · have g1 : (j : Int) < (x.length : Int) := by omega
            obtain ⟨u, hu⟩ : ∃ u, x[j]? = some u := ⟨x[j], List.getElem?_eq_getElem hlt⟩
            obtain ⟨bb, o, ea, c0⟩ := (HAB.out.1.adds HI.out.2) j u hu
            subst ea
            by_cases hjc : j < c
            · have g2 : (j : Int) < z := (HC.out j).2 hjc
              have HN := hid (drop_skip (x := x) hjc)
              clear hu
              go_wp2_with fail
              go_roundw
              case rel => exact ⟨j + 1, by omega, by go_num, by rw [HN.out]; exact HI.out⟩
              case measure => simp [intOf]; omega
            · have g2 : z ≤ (j : Int) := Int.not_lt.1 (fun h => hjc ((HC.out j).1 h))
              have HN := hid (show y.take c ++ (x.take (j + 1)).drop c = (y.take c ++ (x.take j).drop c) ++ [u] by rw [drop_next hu (by omega), List.append_assoc])
              have hlk : (y.take c ++ (x.take j).drop c).length ≤ 2000 := by rw [List.length_append, List.length_take, List.length_drop, List.length_take]; omega
              have HO := hid (HI.out.1.kept (World.grownBy_alloc wr (.cells #[.int .u8 (u.toNat : Int)] 5) none) (own_none _))
              clear hu
              obtain ⟨l, hl⟩ : ∃ l, l = y.take c ++ (x.take j).drop c := ⟨_, rfl⟩
              rw [← hl] at HO HI HN hlk
              clear hl
              go_wp2_with (first
                | (at_builtin; refine append_bytes rfl _ _ rfl w.heap.size _ l.length (S l) rfl HO.out (some ⟨wr.heap.size, 0, none⟩) [u] 1 rfl (fun e => by cases e) (At.one wr u) (by simp; omega) (by have := HI.out.2.size; simp; omega) ?_; intro v1 w1 hown1 hgrow1 hne1; have Q1 := hid (And.intro hown1 (show Adds w w1 from Touch.grown (HI.out.2.alloc _) hgrow1 (fun j hj hlt => by have := (HI.out.1.lt j hj).1; omega))); clear hown1 hgrow1 hne1))
              go_roundw
              case rel => exact ⟨j + 1, by omega, by go_num, own_snoc HN.out Q1.out.1, Q1.out.2⟩
              case measure => simp [intOf]; omega
          · obtain rfl : j = x.length := by omega
            go_wp2_with fail
            go_ret
            have h := HI.out
            rw [List.take_length] at h
            exact ⟨_, rfl, h⟩
theorem rtorn_any (a : Option Addr) (x : List UInt8) (cap : Nat) (b : Option Addr) (y : List UInt8) (cap2 : Nat) (z : Int) (w : World) (hx : x.length ≤ 1000) (hy : y.length ≤ 1000) (hA : At w a x) (hB : At w b y) :
    Calls Tryd.prog 14 #[.slice a x.length cap, .slice b y.length cap2, .int .i64 z] w (POwn w (M.torn x y z)) := by
  by_cases h : 256 < z
  · refine rtorn_hi a x cap b y cap2 z (M.cl z) h (fun k => ?_) w hx hy hA hB
    rw [M.cl, if_neg (by omega), if_pos h]; omega
  · refine rtorn_lo a x cap b y cap2 z (M.cl z) (by omega) (fun k => ?_) w hx hy hA hB
    rw [M.cl, if_neg h]
    split <;> omega
end Go.Proofs.YtahbggdidhmnfaaDoor
