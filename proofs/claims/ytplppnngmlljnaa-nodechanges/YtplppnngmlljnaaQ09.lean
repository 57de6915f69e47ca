/- Where a node lies; small calls. -/
import Derived.Test.YtplppnngmlljnaaQ02
import Derived.Test.YtplppnngmlljnaaQ08
namespace Go.Proofs.Ytplppnngmlljnaa
open Go.RowKit

/-- Texts and numbers as cells. -/
def Ss (bs : List (List UInt8)) : List Value := bs.map Str
def Is (zs : List Int) : List Value := zs.map fun z => .int .i64 z
theorem Ss_get (bs : List (List UInt8)) (i : Nat) : (Ss bs)[i]? = (bs[i]?).map Str := by simp [Ss]
theorem Is_get (zs : List Int) (i : Nat) : (Is zs)[i]? = (zs[i]?).map fun z => .int .i64 z := by simp [Is]
theorem len_Ss (bs : List (List UInt8)) : (Ss bs).length = bs.length := by simp [Ss]
theorem len_Is (zs : List Int) : (Is zs).length = zs.length := by simp [Is]
theorem one_Ss (bs : List (List UInt8)) : ∀ u ∈ Ss bs, u.oneCell' = true := by
  intro u hu
  obtain ⟨x, _, rfl⟩ := List.mem_map.1 hu
  rfl
theorem one_Is (zs : List Int) : ∀ u ∈ Is zs, u.oneCell' = true := by
  intro u hu
  obtain ⟨x, _, rfl⟩ := List.mem_map.1 hu
  rfl
/-- A node in memory: its parts. -/
structure NM where
  leaf : Bool
  ka : Option Addr
  kc : Nat
  ks : List (List UInt8)
  v : Pl
  ia : Option Addr
  ic : Nat
  is : List Int
def NM.nd (x : NM) : N.Nd := ⟨x.leaf, x.ks, x.v.bs, x.is⟩
abbrev NM.kv (x : NM) : Value := .slice x.ka x.ks.length x.kc
abbrev NM.vv (x : NM) : Value := .slice x.v.a x.v.l.length x.v.cap
abbrev NM.iv (x : NM) : Value := .slice x.ia x.is.length x.ic
abbrev NM.val (x : NM) : Value := .agg #[.bool x.leaf, x.kv, x.vv, x.iv]
structure NQ (w : World) (Q : Nat → Prop) (x : NM) : Prop where
  keys : CQ w Q x.ka (Ss x.ks)
  kn : x.ka = none → x.kc = 0
  kr : x.ks.length ≤ x.kc
  vals : GQ w Q x.v
  vr : x.v.l.length ≤ x.v.cap
  kids : CQ w Q x.ia (Is x.is)
  inn : x.ia = none → x.ic = 0
  ir : x.is.length ≤ x.ic
/-- Its parts are not too great. -/
structure NS (x : NM) : Prop where
  k : x.ks.length ≤ 1000
  v : x.v.l.length ≤ 1000
  i : x.is.length ≤ 1000
  kl : ∀ b ∈ x.ks, b.length ≤ 1000
  vl : ∀ b ∈ x.v.l, b.bs.length ≤ 1000
section
variable {w w' : World} {T Q Q' : Nat → Prop} {x : NM}
theorem NQ.touch (h : NQ w Q x) (ht : Touch T w w') (hn : ∀ k, Q k → ¬ T k) : NQ w' Q x := ⟨h.keys.touch ht hn, h.kn, h.kr, h.vals.touch ht hn, h.vr, h.kids.touch ht hn, h.inn, h.ir⟩
theorem NQ.adds (h : NQ w Q x) (ht : Adds w w') : NQ w' Q x := h.touch ht (fun _ _ => id)
theorem NQ.mono (h : NQ w Q x) (hq : ∀ k, k < w.heap.size → Q k → Q' k) : NQ w Q' x := ⟨h.keys.mono hq, h.kn, h.kr, h.vals.mono hq, h.vr, h.kids.mono hq, h.inn, h.ir⟩
theorem NQ.any (h : NQ w Q x) : NQ w (fun _ => True) x := h.mono (fun _ _ _ => trivial)
theorem NQ.key (h : NQ w Q x) {i : Nat} (hi : i < x.ks.length) : ∃ b o, x.ka = some ⟨b, o, none⟩ ∧ w.cell? ⟨b, o + i, none⟩ = some (Str (x.ks.getD i [])) := by
  obtain ⟨b, o, e, _, hc⟩ := h.keys i (Str (x.ks.getD i [])) (by rw [Ss_get, List.getElem?_eq_getElem hi, List.getD_eq_getElem?_getD, List.getElem?_eq_getElem hi]; rfl)
  exact ⟨b, o, e, hc⟩
theorem NQ.kid (h : NQ w Q x) {i : Nat} (hi : i < x.is.length) : ∃ b o, x.ia = some ⟨b, o, none⟩ ∧ w.cell? ⟨b, o + i, none⟩ = some (.int .i64 (x.is.getD i 0)) := by
  obtain ⟨b, o, e, _, hc⟩ := h.kids i (.int .i64 (x.is.getD i 0)) (by rw [Is_get, List.getElem?_eq_getElem hi, List.getD_eq_getElem?_getD, List.getElem?_eq_getElem hi]; rfl)
  exact ⟨b, o, e, hc⟩
theorem GQ.cell {g : Pl} (h : GQ w Q g) {i : Nat} (hi : i < g.l.length) : ∃ b o, g.a = some ⟨b, o, none⟩ ∧ w.cell? ⟨b, o + i, none⟩ = some (PV g.l[i]) := by
  obtain ⟨b, o, e, _, hc⟩ := h.at_ i (PV g.l[i]) (by rw [List.getElem?_map, List.getElem?_eq_getElem hi]; rfl)
  exact ⟨b, o, e, hc⟩
end
set_option maxRecDepth 100000 in
theorem isNoVal_any (a : Option Addr) (n cap : Nat) (w : World) : Calls Try.prog 40 #[.slice a n cap] w (Tells (.bool (decide (49 < n))) w) := by
  obtain ⟨z, hz⟩ : ∃ z, z = decide (49 < n) := ⟨_, rfl⟩
  have e : decide ((49 : Int) < (n : Int)) = z := by rw [hz]; simp; omega
  rw [← hz]
  clear hz
  go_enter Try.func40, Try.ntmps40
  go_wp2
  go_ret
  exact ⟨rfl, rfl⟩
set_option maxRecDepth 100000 in
theorem isNoKid_any (k : Int) (w : World) : Calls Try.prog 42 #[.int .i64 k] w (Tells (.bool (!(decide (0 ≤ k) && decide (k ≤ 2147483647)))) w) := by
  by_cases h0 : k < 0
  · have e : (!(decide (0 ≤ k) && decide (k ≤ 2147483647))) = true := by simp; omega
    rw [e]
    go_enter Try.func42, Try.ntmps42
    go_wp2
    go_ret
    exact ⟨rfl, rfl⟩
  · by_cases h1 : 2147483647 < k
    · have e : (!(decide (0 ≤ k) && decide (k ≤ 2147483647))) = true := by simp; omega
      rw [e]
      go_enter Try.func42, Try.ntmps42
      go_wp2
      go_ret
      exact ⟨rfl, rfl⟩
    · have e : (!(decide (0 ≤ k) && decide (k ≤ 2147483647))) = false := by simp; omega
      rw [e]
      go_enter Try.func42, Try.ntmps42
      go_wp2
      go_ret
      exact ⟨rfl, rfl⟩
def PIdxB (z : Bool) (w : World) (e : Ending) (w' : World) : Prop := ∃ i : Int, e = .returned (.int .i64 i) ∧ w' = w ∧ Hid (decide (0 ≤ i) = z)
set_option maxRecDepth 100000 in
set_option maxHeartbeats 1000000 in
theorem idxFB_any (g : Pl) (n : Nat) (hn : g.l.length = n) (w : World) {Q : Nat → Prop} (h : GQ w Q g) (hl : n ≤ 1000) : Calls Try.prog 71 #[.slice g.a n g.cap, .func (.func 40) #[] #[]] w (PIdxB (!N.valsOk g.bs) w) := by
  have HG := hid h
  have HN := hid hn
  clear h hn
  go_enter Try.func71, Try.ntmps71
  go_wp2_with fail
  go_loopw [8] (fun t wx => ∃ i : Nat, i ≤ n ∧ t = .int .i64 (i : Int) ∧ wx = w ∧ Hid (∀ j (hj : j < g.l.length), j < i → g.l[j].bs.length ≤ 49)) (fun t _ => n - (intOf t).toNat)
  case atStart => exact ⟨0, Nat.zero_le _, rfl, rfl, fun j _ h => by omega⟩
  case round =>
    obtain ⟨i, hi, rfl, hwx, HI⟩ := hrel
    rw [hwx]
    clear hwx
    by_cases hlt : i < n
    · have hlz : (i : Int) < (n : Int) := by omega
      have hi2 : i < g.l.length := by rw [HN.out]; exact hlt
      obtain ⟨b, o, ea, hc⟩ := HG.out.cell hi2
      rw [ea]
      obtain ⟨y, hy⟩ : ∃ y, y = g.l[i] := ⟨_, rfl⟩
      rw [← hy] at hc
      unfold PV at hc
      obtain ⟨m, hm⟩ : ∃ m, m = y.bs.length := ⟨_, rfl⟩
      rw [← hm] at hc
      have HC := hid (isNoVal_any y.a m y.cap w)
      have HY := hid (show g.l[i].bs.length = m by rw [← hy, hm])
      clear hm hy
      by_cases h49 : 49 < m
      · have d : decide (49 < m) = true := decide_eq_true h49
        rw [d] at HC
        clear d
        go_wp2_with (go_at_call 40; refine HC.out.mono ?_; rintro e w1 ⟨rfl, hw⟩; rw [hw]; clear hw)
        go_ret
        refine ⟨_, rfl, rfl, ?_⟩
        have h1 : N.valsOk g.bs = false := by
          unfold N.valsOk Pl.bs
          rw [List.all_eq_false]
          exact ⟨g.l[i].bs, List.mem_map.2 ⟨g.l[i], List.getElem_mem hi2, rfl⟩, by rw [HY.out]; simpa using h49⟩
        exact hid (by rw [h1]; simp)
      · have d : decide (49 < m) = false := decide_eq_false h49
        rw [d] at HC
        clear d
        go_wp2_with (go_at_call 40; refine HC.out.mono ?_; rintro e w1 ⟨rfl, hw⟩; rw [hw]; clear hw)
        go_roundw
        case rel =>
          refine ⟨i + 1, by omega, by go_num, by trivial, fun j hj hj2 => ?_⟩
          rcases Nat.lt_or_eq_of_le (Nat.le_of_lt_succ hj2) with q | q
          · exact HI.out j hj q
          · subst q; rw [HY.out]; omega
        case measure => simp [intOf]; omega
    · obtain rfl : i = n := by omega
      have hlz : ¬ (i : Int) < (i : Int) := by omega
      go_wp2_with fail
      go_ret
      refine ⟨_, rfl, rfl, ?_⟩
      have h1 : N.valsOk g.bs = true := by
        unfold N.valsOk Pl.bs
        rw [List.all_eq_true]
        intro b hb
        obtain ⟨y, hy, rfl⟩ := List.mem_map.1 hb
        obtain ⟨j, hj, rfl⟩ := List.getElem_of_mem hy
        simpa using HI.out j hj (by rw [HN.out] at hj; exact hj)
      exact hid (by rw [h1]; rfl)
set_option maxRecDepth 100000 in
set_option maxHeartbeats 1000000 in
theorem idxFI_any (a : Option Addr) (zs : List Int) (n cap : Nat) (hn : zs.length = n) (w : World) {Q : Nat → Prop} (h : CQ w Q a (Is zs)) (hl : n ≤ 1000) : Calls Try.prog 72 #[.slice a n cap, .func (.func 42) #[] #[]] w (PIdxB (!N.kidsOk zs) w) := by
  have HG := hid h
  have HN := hid hn
  clear h hn
  go_enter Try.func72, Try.ntmps72
  go_wp2_with fail
  go_loopw [8] (fun t wx => ∃ i : Nat, i ≤ n ∧ t = .int .i64 (i : Int) ∧ wx = w ∧ Hid (∀ j (hj : j < zs.length), j < i → (decide (0 ≤ zs[j]) && decide (zs[j] ≤ 2147483647)) = true)) (fun t _ => n - (intOf t).toNat)
  case atStart => exact ⟨0, Nat.zero_le _, rfl, rfl, fun j _ h => by omega⟩
  case round =>
    obtain ⟨i, hi, rfl, hwx, HI⟩ := hrel
    rw [hwx]
    clear hwx
    by_cases hlt : i < n
    · have hlz : (i : Int) < (n : Int) := by omega
      have hi2 : i < zs.length := by rw [HN.out]; exact hlt
      obtain ⟨b, o, ea, _, hc⟩ := HG.out i (.int .i64 zs[i]) (by rw [Is_get, List.getElem?_eq_getElem hi2]; rfl)
      rw [ea]
      obtain ⟨y, hy⟩ : ∃ y, y = zs[i] := ⟨_, rfl⟩
      rw [← hy] at hc
      have HC := hid (isNoKid_any y w)
      have HY := hid hy.symm
      clear hy
      by_cases h49 : (decide (0 ≤ y) && decide (y ≤ 2147483647)) = true
      · have HK := hid h49
        rw [h49] at HC
        clear h49
        go_wp2_with (go_at_call 42; refine HC.out.mono ?_; rintro e w1 ⟨rfl, hw⟩; rw [hw]; clear hw)
        go_roundw
        case rel =>
          refine ⟨i + 1, by omega, by go_num, by trivial, fun j hj hj2 => ?_⟩
          rcases Nat.lt_or_eq_of_le (Nat.le_of_lt_succ hj2) with q | q
          · exact HI.out j hj q
          · subst q; rw [HY.out]; exact HK.out
        case measure => simp [intOf]; omega
      · have h50 : (decide (0 ≤ y) && decide (y ≤ 2147483647)) = false := by simpa using h49
        have HK := hid h50
        rw [h50] at HC
        clear h49 h50
        go_wp2_with (go_at_call 42; refine HC.out.mono ?_; rintro e w1 ⟨rfl, hw⟩; rw [hw]; clear hw)
        go_ret
        refine ⟨_, rfl, rfl, ?_⟩
        have h1 : N.kidsOk zs = false := by
          unfold N.kidsOk
          rw [List.all_eq_false]
          exact ⟨zs[i], List.getElem_mem hi2, by rw [HY.out, HK.out]; decide⟩
        exact hid (by rw [h1]; simp)
    · obtain rfl : i = n := by omega
      have hlz : ¬ (i : Int) < (i : Int) := by omega
      go_wp2_with fail
      go_ret
      refine ⟨_, rfl, rfl, ?_⟩
      have h1 : N.kidsOk zs = true := by
        unfold N.kidsOk
        rw [List.all_eq_true]
        intro b hb
        obtain ⟨j, hj, rfl⟩ := List.getElem_of_mem hb
        exact HI.out j hj (by rw [HN.out] at hj; exact hj)
      exact hid (by rw [h1]; rfl)
set_option maxRecDepth 100000 in
theorem hasFB_any (g : Pl) (n : Nat) (hn : g.l.length = n) (w : World) {Q : Nat → Prop} (h : GQ w Q g) (hl : n ≤ 1000) : Calls Try.prog 39 #[.slice g.a n g.cap, .func (.func 40) #[] #[]] w (Tells (.bool (!N.valsOk g.bs)) w) := by
  have H := hid (idxFB_any g n hn w h hl)
  clear h hn
  go_enter Try.func39, Try.ntmps39
  go_wp2_with (go_at_call 71; refine H.out.mono ?_; rintro e w1 ⟨i, rfl, hw, HI⟩; rw [hw]; clear hw)
  go_ret
  exact ⟨by show Ending.returned (.bool (decide (0 ≤ i))) = _; rw [HI.out], rfl⟩
set_option maxRecDepth 100000 in
theorem hasFI_any (a : Option Addr) (zs : List Int) (n cap : Nat) (hn : zs.length = n) (w : World) {Q : Nat → Prop} (h : CQ w Q a (Is zs)) (hl : n ≤ 1000) : Calls Try.prog 41 #[.slice a n cap, .func (.func 42) #[] #[]] w (Tells (.bool (!N.kidsOk zs)) w) := by
  have H := hid (idxFI_any a zs n cap hn w h hl)
  clear h hn
  go_enter Try.func41, Try.ntmps41
  go_wp2_with (go_at_call 72; refine H.out.mono ?_; rintro e w1 ⟨i, rfl, hw, HI⟩; rw [hw]; clear hw)
  go_ret
  exact ⟨by show Ending.returned (.bool (decide (0 ≤ i))) = _; rw [HI.out], rfl⟩
end Go.Proofs.Ytplppnngmlljnaa
