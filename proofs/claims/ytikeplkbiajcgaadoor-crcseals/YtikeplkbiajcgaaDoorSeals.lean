/- The walk of CrcSeals. -/
import Derived.Test.YtikeplkbiajcgaaDoorOpen3
import Derived.Deep.Cut
import Derived.Deep.CutRange
namespace Go.Proofs.YtikeplkbiajcgaaDoor
open Go.RowKit

/-- A row of at least n bytes, whatever they are. -/
def Row (w : World) (g n : Nat) : Prop := ∃ cur, w.heap[g]? = some (.cells cur 5 (0, 0)) ∧ ∀ j, j < n → ∃ z, cur[j]? = some (.int .u8 z)
theorem Row.of_own {w : World} {base g n cap : Nat} {bs : List UInt8} (h : w.ownsRow base 5 1 (.slice (some ⟨g, 0, none⟩) n cap) n (S bs)) : Row w g n := by
  rcases h.2 with ⟨e, _⟩ | ⟨g', cap', cur, e, _, hg, _, _, _, ht⟩
  · cases e
  · obtain ⟨rfl, _⟩ : g = g' ∧ cap = cap' := by simpa using e
    refine ⟨cur, hg, fun j hj => ?_⟩
    have hl := h.1
    rw [length_S, Nat.mul_one] at hl
    obtain ⟨c, hc⟩ : ∃ c, bs[j]? = some c := ⟨bs[j], List.getElem?_eq_getElem (by omega)⟩
    have h2 : (S bs)[j]? = some (.int .u8 (c.toNat : Int)) := by rw [S_get, hc]; rfl
    rw [← ht, List.getElem?_take] at h2
    split at h2
    · exact ⟨_, by rw [← Array.getElem?_toList]; exact h2⟩
    · cases h2
theorem Row.block {w w' : World} {g n : Nat} (h : Row w g n) (hb : w'.heap[g]? = w.heap[g]?) : Row w' g n := by
  obtain ⟨cur, hc, hz⟩ := h
  exact ⟨cur, by rw [hb]; exact hc, hz⟩
theorem Row.lt {w : World} {g n : Nat} (h : Row w g n) : g < w.heap.size := by
  obtain ⟨cur, hc, _⟩ := h
  exact (Array.getElem?_eq_some_iff.1 hc).1
theorem Row.adds {w w' : World} {g n : Nat} (h : Row w g n) (hA : Adds w w') : Row w' g n := h.block (hA.block g h.lt id)
theorem Row.set {w : World} {g n : Nat} (h : Row w g n) (k : Nat) (z : Int) : Row (w.setCell ⟨g, k, none⟩ (.int .u8 z)) g n := by
  obtain ⟨cur, hc, hz⟩ := h
  refine ⟨_, heap_setCell_same w g k cur 5 _ hc, fun j hj => ?_⟩
  obtain ⟨z', hz'⟩ := hz j hj
  rw [Array.getElem?_setIfInBounds]
  split
  · rename_i e
    subst e
    have := (Array.getElem?_eq_some_iff.1 hz').1
    exact ⟨z, by rw [if_pos this]⟩
  · exact ⟨z', hz'⟩
theorem Row.other {w : World} {g g' n : Nat} (h : Row w g n) (hne : g ≠ g') (k : Nat) (v : Value) : Row (w.setCell ⟨g', k, none⟩ v) g n :=
  h.block (Below.heap_setCell _ _ _ _ hne)
theorem Row.cell {w : World} {g n : Nat} (h : Row w g n) {k : Nat} (hk : k < n) : ∃ z, w.cell? ⟨g, k, none⟩ = some (.int .u8 z) ∧ w.frozen? ⟨g, k, none⟩ = false := by
  obtain ⟨cur, hc, hz⟩ := h
  obtain ⟨z, hz'⟩ := hz k hk
  exact ⟨z, by rw [cell_of_row w g k cur 5 _ hc]; exact hz', frozen_of_row w g k cur 5 hc⟩

/-- What is told of y's row. -/
def RowY (w : World) (ay : Option Addr) (ly g0 : Nat) : Prop := ly = 0 ∨ ∃ gy, ay = some ⟨gy, 0, none⟩ ∧ g0 < gy ∧ Row w gy ly
theorem RowY.of_own {w : World} {base ly cap g0 : Nat} {ay : Option Addr} {bs : List UInt8} (h : w.ownsRow base 5 1 (.slice ay ly cap) ly (S bs)) (hb : g0 < base) : RowY w ay ly g0 := by
  rcases h.2 with ⟨_, e⟩ | ⟨g', cap', cur, e, hg, _⟩
  · exact .inl e
  · obtain ⟨rfl, rfl⟩ : ay = some ⟨g', 0, none⟩ ∧ cap = cap' := by simpa using e
    exact .inr ⟨g', rfl, by omega, Row.of_own h⟩
theorem RowY.adds {w w' : World} {ay : Option Addr} {ly g0 : Nat} (h : RowY w ay ly g0) (hA : Adds w w') : RowY w' ay ly g0 := by
  rcases h with h | ⟨gy, e, hg, hr⟩
  · exact .inl h
  · exact .inr ⟨gy, e, hg, hr.adds hA⟩
theorem RowY.other {w : World} {ay : Option Addr} {ly g0 : Nat} (h : RowY w ay ly g0) (k : Nat) (v : Value) : RowY (w.setCell ⟨g0, k, none⟩ v) ay ly g0 := by
  rcases h with h | ⟨gy, e, hg, hr⟩
  · exact .inl h
  · exact .inr ⟨gy, e, hg, hr.other (by omega) _ _⟩
theorem RowY.set {w : World} {gy ly g0 : Nat} (h : RowY w (some ⟨gy, 0, none⟩) ly g0) (k : Nat) (z : Int) : RowY (w.setCell ⟨gy, k, none⟩ (.int .u8 z)) (some ⟨gy, 0, none⟩) ly g0 := by
  rcases h with h | ⟨gy', e, hg, hr⟩
  · exact .inl h
  · obtain rfl : gy = gy' := by simpa using e
    exact .inr ⟨gy, rfl, hg, hr.set _ _⟩

namespace Sls
/-- What the law asks of the worlds behind its calls. -/
def Inv (w1 : World) (gx L : Nat) (ay : Option Addr) (ly : Nat) (wr : World) : Prop := Row wr gx L ∧ w1.heap.size ≤ gx ∧ RowY wr ay ly gx ∧ Adds w1 wr

set_option maxRecDepth 100000 in
set_option maxHeartbeats 8000000 in
theorem walk (a : Option Addr) (bs : List UInt8) (cap : Nat) (w : World) (hlen : bs.length ≤ 9223372036854775807) (hcap : bs.length ≤ cap) (hnil : a = none → cap = 0) (hT : Tab w) (hA : At w a bs) : Calls Tryd.prog 5 #[.slice a bs.length cap] w (Adding (.bool true) w) := by
  by_cases h : 3000 < bs.length
  · clear hT hA
    go_enter Tryd.func5, Tryd.ntmps5
    go_wp2
    go_ret
    exact ⟨rfl, Touch.refl _ w⟩
  have HC := hid hnil
  have HA1 := hid (hA.adds ((Touch.refl _ w).alloc (.cells #[] 5)))
  have HO := hid (World.ownsRow_lit (base := w.heap.size) (e := 5) (size := 1) w #[] 0 (Nat.le_refl _) (by decide) rfl)
  have HL : Hid (bs.length ≤ 3000) := show _ ≤ _ by omega
  have HT := hid hT
  have HA := hid hA
  have HK := hid hcap
  clear hT hA hnil hcap
  go_enter Tryd.func5, Tryd.ntmps5
  go_wp2_with (at_builtin; refine append_bytes rfl _ _ rfl w.heap.size (.slice (some ⟨w.heap.size, 0, none⟩) 0 0) 0 [] rfl HO.out a bs cap rfl HC.out HA1.out (by have := HL.out; omega) (by simp) ?_; intro v1 w1 hown1 hgrow1 hne1; have HO1 := hid (And.intro hown1 (And.intro hgrow1 hne1)); clear hown1 hgrow1 hne1)
  obtain ⟨hown1, hgrow1, hne1⟩ := HO1.out
  rw [Nat.zero_add, List.nil_append] at hown1
  obtain ⟨go, capo, rfl, hbo, hco⟩ : ∃ go capo, v1 = .slice (some ⟨go, 0, none⟩) bs.length capo ∧ w.heap.size ≤ go ∧ bs.length ≤ capo := by
    rcases hown1.2 with ⟨e, _⟩ | ⟨g, c, cur, rfl, hb, _, hc, _⟩
    · rcases hne1 with e' | e'
      · cases e'
      · exact absurd e e'
    · exact ⟨g, c, rfl, hb, hc⟩
  have hW1 : Adds w w1 := Touch.grown ((Touch.refl _ w).alloc _) hgrow1 (fun k hk hlt => by simp [Value.ownBlock] at hk; omega)
  have HW1 := hid hW1
  have HOA := hid (At.own hown1)
  have HCO := hid hco
  clear HO1 hown1 hgrow1 hne1 hbo hco HA1 HO hW1
  go_wp2_with (first
    | (go_at_call 16; refine (seal_any (some ⟨go, 0, none⟩) bs capo w1 (by have := HL.out; omega) (fun e => by cases e) (HT.out.adds HW1.out) HOA.out).mono ?_; rintro e w2 ⟨gx, capx, rfl, hgx, hownx, hA2⟩; have H2 := hid (And.intro hgx (And.intro hownx hA2)); clear hgx hownx hA2)
    | (go_at_call 17; refine (open_any (some ⟨go, 0, none⟩) bs capo w2 (by have := HL.out; omega) HCO.out (HT.out.adds (HW1.out.trans H2.out.2.2)) (HOA.out.adds H2.out.2.2)).mono ?_; rintro e w3 ⟨ay, cy, rfl, howny, hA3⟩; have H3 := hid (And.intro howny hA3); clear howny hA3)
    | (go_at_call 18; refine (ropen_any a bs cap w3 (by have := HL.out; omega) HK.out (HA.out.adds ((HW1.out.trans H2.out.2.2).trans H3.out.2))).mono ?_; rintro e w4 ⟨az, cz, rfl, hatz, hA4⟩; have H4 := hid (And.intro hatz hA4); clear hatz hA4))
  have HAB := hid ((H2.out.2.2.trans H3.out.2).trans H4.out.2)
  have HINV := hid (show ∀ w5, Adds w4 w5 → Inv w1 gx (bs.length + 4) ay (opened bs).length w5 from fun w5 h5 => by
    have hx := (Row.of_own H2.out.2.1)
    exact ⟨hx.adds ((H3.out.2.trans H4.out.2).trans h5), H2.out.1, (RowY.of_own H3.out.1 hx.lt).adds (H4.out.2.trans h5), HAB.out.trans h5⟩)
  have HSR := hid (rseal_any a bs cap w4.drew (by have := HL.out; omega) HC.out (HA.out.adds ((HW1.out.trans HAB.out).drew)))
  have HC5 := hid (show ∀ w5, Adds w4 w5 → (convert 22 9 (.slice (some ⟨gx, 0, none⟩) (bs.length + 4) capx)).run Tryd.prog w5 = .ok (.string ⟨(sealed bs).toArray⟩) w5 ∧ (convert 22 9 (.slice ay (opened bs).length cy)).run Tryd.prog w5 = .ok (.string ⟨(opened bs).toArray⟩) w5 ∧ (convert 22 9 (.slice az (opened bs).length cz)).run Tryd.prog w5 = .ok (.string ⟨(opened bs).toArray⟩) w5 from fun w5 h5 => by
    refine ⟨?_, conv_at w5 ay _ cy ((At.owns H3.out.1).adds (H4.out.2.trans h5)), conv_at w5 az _ cz (H4.out.1.adds h5)⟩
    have := conv_at w5 (some ⟨gx, 0, none⟩) (sealed bs) capx ((At.own H2.out.2.1).adds ((H3.out.2.trans H4.out.2).trans h5))
    rw [len_sealed] at this
    exact this)
  have HCZ := hid (show ∀ w5 gz capz, w5.ownsRow w4.drew.heap.size 5 1 (.slice (some ⟨gz, 0, none⟩) (bs.length + 4) capz) (bs.length + 4) (S (sealed bs)) → (convert 22 9 (.slice (some ⟨gz, 0, none⟩) (bs.length + 4) capz)).run Tryd.prog w5 = .ok (.string ⟨(sealed bs).toArray⟩) w5 from fun w5 gz capz h5 => by
    have := conv_at w5 (some ⟨gz, 0, none⟩) (sealed bs) capz (At.own h5)
    rw [len_sealed] at this
    exact this)
  have HST := hid (show ∀ w5, Adds w1 w5 → (convert 22 9 (.slice (some ⟨go, 0, none⟩) bs.length capo)).run Tryd.prog w5 = .ok (.string ⟨bs.toArray⟩) w5 ∧ (convert 22 9 (.slice a bs.length cap)).run Tryd.prog w5 = .ok (.string ⟨bs.toArray⟩) w5 from fun w5 h5 => ⟨conv_at w5 _ bs capo (HOA.out.adds h5), conv_at w5 a bs cap (HA.out.adds (HW1.out.trans h5))⟩)
  generalize (⟨(sealed bs).toArray⟩ : ByteArray) = X at HC5 HCZ
  generalize (⟨(opened bs).toArray⟩ : ByteArray) = Y at HC5
  generalize (⟨bs.toArray⟩ : ByteArray) = B at HST
  have HSR' := hid (show Calls Tryd.prog 19 #[.slice a bs.length cap] w4.drew (fun e w5 => ∃ gz capz, e = .returned (.slice (some ⟨gz, 0, none⟩) (bs.length + 4) capz) ∧ Hid (Adds w4 w5) ∧ (convert 22 9 (.slice (some ⟨gz, 0, none⟩) (bs.length + 4) capz)).run Tryd.prog w5 = .ok (.string X) w5) from HSR.out.mono (by
    rintro e w5 ⟨gz, capz, rfl, _, hownz, hA5⟩
    exact ⟨gz, capz, rfl, (Touch.refl _ w4).drew.trans hA5, HCZ.out w5 gz capz hownz⟩))
  have HT1 := hid (HT.out.adds HW1.out)
  clear HSR HCZ HA HOA HCO HK HC H2 H3 H4 HT
  have hly : (opened bs).length ≤ 3000 := by
    have := HL.out
    unfold opened
    split
    · simp
    · split
      · rw [List.length_take]; omega
      · simp
  generalize openErr bs = er at *
  generalize (opened bs).length = ly at *
  go_cut [46] from 29 to 46 (fun t wx => t = .bool false ∧ Hid (Adds w4 wx))
  case first =>
    obtain ⟨d1, d2, d3⟩ := HC5.out _ (Touch.refl _ w4).drew
    go_region_with (first | (go_at_call 19; refine HSR'.out.mono ?_; rintro e w5 ⟨gz, capz, rfl, H5, hcz⟩; obtain ⟨k1, k2, k3⟩ := HC5.out _ H5.out))
    all_goals (go_wp2_with fail; go_meet)
    all_goals exact ⟨rfl, H5.out⟩
  case rest =>
    obtain ⟨rfl, HWC⟩ := hcut
    have HI0 := hid (HINV.out wc HWC.out)
    clear HSR' HC5 HINV HAB
    go_wp2
    go_loopw [49] (fun i wr => ∃ k : Nat, k ≤ bs.length + 4 ∧ i = .int .i64 (k : Int) ∧ Hid (Inv w1 gx (bs.length + 4) ay ly wr)) (fun i _ => bs.length + 4 - (intOf i).toNat)
    case atStart => exact ⟨0, by omega, rfl, HI0.out⟩
    case round =>
      obtain ⟨k, hk, rfl, HI⟩ := hrel
      by_cases hlt : k < bs.length + 4
      · obtain ⟨z, hcell, hfr⟩ := HI.out.1.cell hlt
        go_wp2
        go_roundw
        case rel =>
          obtain ⟨h1, h2, h3, h4⟩ := HI.out
          exact ⟨k + 1, by omega, by go_num, h1.set _ _, h2, h3.other _ _, h4.setCell (fun hh => absurd h2 (Nat.not_le.2 hh)) _⟩
        case measure => simp [intOf]; omega
      · obtain rfl : k = bs.length + 4 := by omega
        clear hlt hk
        go_wp2
        go_loopw [61] (fun i wr' => ∃ k : Nat, k ≤ ly ∧ i = .int .i64 (k : Int) ∧ Hid (Inv w1 gx (bs.length + 4) ay ly wr')) (fun i _ => ly - (intOf i).toNat)
        case atStart => exact ⟨0, by omega, rfl, HI.out⟩
        case round =>
          obtain ⟨k, hk, rfl, HI'⟩ := hrel
          by_cases hlt : k < ly
          · obtain ⟨gy, rfl, hgy, hry⟩ : ∃ gy, ay = some ⟨gy, 0, none⟩ ∧ gx < gy ∧ Row wr gy ly := by
              rcases HI'.out.2.2.1 with e | e
              · omega
              · exact e
            obtain ⟨z, hcell, hfr⟩ := hry.cell hlt
            clear hry
            go_wp2
            go_roundw
            case rel =>
              obtain ⟨h1, h2, h3, h4⟩ := HI'.out
              exact ⟨k + 1, by omega, by go_num, h1.other (by omega) _ _, h2, h3.set _ _, h4.setCell (fun hh => absurd h2 (by have : gy < w1.heap.size := hh; omega)) _⟩
            case measure => simp [intOf]; omega
          · obtain ⟨f1, f2⟩ := HST.out _ HI'.out.2.2.2
            have HWK := hid (works_any _ (HT1.out.adds HI'.out.2.2.2))
            go_wp2_with (go_at_call 11; refine HWK.out.mono ?_; rintro e w9 ⟨rfl, hA9⟩)
            go_ret
            exact ⟨rfl, (HW1.out.trans HI'.out.2.2.2).trans hA9⟩
end Sls
end Go.Proofs.YtikeplkbiajcgaaDoor
