/- One row; whether a row may be; how great rows are. -/
import Derived.Test.YtkkmbpcmkhikkaaBag
namespace Go.Proofs.Ytkkmbpcmkhikkaa
open Go.RowKit

/-- The Int of a number. -/
def num (n : Int) : M.V := ⟨2, n, 0, []⟩
/-- A row of one Int, in new memory. -/
def POne (w : World) (n : Int) (e : Ending) (w' : World) : Prop := ∃ g, e = .returned (.slice (some ⟨g, 0, none⟩) 1 1) ∧ Hid (IsRow w' ⟨some ⟨g, 0, none⟩, 1, [num n]⟩ ∧ Adds w w')
set_option maxHeartbeats 400000 in
theorem one_any (n : Int) (w : World) : Calls Try.prog 18 #[.int .i64 n] w (POne w n) := by
  go_enter Try.func18, Try.ntmps18
  go_wp2_with (first | (go_at_call 35; refine (number_any n _).mono ?_; rintro e w1 ⟨rfl, hA⟩; have A1 := hid hA; clear hA))
  go_ret
  refine ⟨w1.heap.size, rfl, ⟨?_, show [num n].length ≤ 1000000 by simp, fun e => (by cases e)⟩, A1.out.alloc _⟩
  show VAt _ (some ⟨w1.heap.size, 0, none⟩) [num n]
  intro j v hj
  have hb := heap_alloc_new w1 (.cells #[.int .i64 2, .int .i64 n, .float .f64 0, .string ⟨#[]⟩] 47)
  have hlt := (List.getElem?_eq_some_iff.1 hj).1
  obtain rfl : j = 0 := by simp at hlt; omega
  obtain rfl : num n = v := by simpa using hj
  refine ⟨w1.heap.size, 0, rfl, ?_, ?_, ?_, ?_⟩
  · rw [cellOf hb]; rfl
  · rw [cellOf hb]; rfl
  · rw [cellOf hb]; rfl
  · rw [cellOf hb]; rfl
/-- May a row be? -/
def rightR (r : List M.V) : Bool := decide (r.length ≤ 200) && r.all M.right
theorem all_step {r : List M.V} {i : Nat} {v : M.V} (h : r[i]? = some v) : (r.drop i).all M.right = (M.right v && (r.drop (i + 1)).all M.right) := by
  obtain ⟨h1, e1⟩ := List.getElem?_eq_some_iff.1 h
  rw [List.drop_eq_getElem_cons h1, e1]; rfl
theorem right_z (v : M.V) (z : Bool) (hz : M.right v = z) (w : World) : Calls Try.prog 28 #[.agg #[.int .i64 v.k, .int .i64 v.n, .float .f64 v.b, .string ⟨v.t.toArray⟩]] w (Tells w (.bool z)) := by
  subst hz
  exact right_any v w
set_option maxRecDepth 100000 in
set_option maxHeartbeats 1000000 in
theorem rowRight_any (x : Hd) (w : World) (hx : IsRow w x) : Calls Try.prog 13 #[.slice x.a x.r.length x.cap] w (Tells w (.bool (rightR x.r))) := by
  obtain ⟨a, ca, r⟩ := x
  have HX := hid (show VAt w a r from hx.at_)
  have hs := hst
  have hl : r.length ≤ 1000000 := hx.len
  clear hx
  show Calls Try.prog 13 #[.slice a r.length ca] w (Tells w (.bool (rightR r)))
  by_cases h2 : 200 < r.length
  · have HF := hid (show rightR r = false by unfold rightR; rw [decide_eq_false (by omega)]; rfl)
    have h2z : (200 : Int) < (r.length : Int) := by omega
    go_enter Try.func13, Try.ntmps13
    go_wp2_with fail
    go_ret
    exact ⟨by rw [HF.out]; rfl, Touch.refl _ _⟩
  · have HF := hid (show rightR r = r.all M.right by unfold rightR; rw [decide_eq_true (by omega)]; rfl)
    have h2z : ¬ (200 : Int) < (r.length : Int) := by omega
    go_enter Try.func13, Try.ntmps13
    go_wp2_with fail
    go_loopw [10] (fun iv wr => ∃ i : Nat, iv = .int .i64 (i : Int) ∧ i ≤ r.length ∧ Hid (r.all M.right = (r.drop i).all M.right ∧ Adds w wr)) (fun iv _ => r.length - (intOf iv).toNat)
    case atStart => exact ⟨0, rfl, Nat.zero_le _, by simp, Touch.refl _ _⟩
    case round =>
      obtain ⟨i, rfl, hi, HI⟩ := hrel
      by_cases hlt : i < r.length
      · have hltz : (i : Int) < (r.length : Int) := by omega
        obtain ⟨v, hv⟩ : ∃ v, r[i]? = some v := ⟨r[i], List.getElem?_eq_getElem hlt⟩
        have HE := hid (all_step hv)
        obtain ⟨b, o, ea, hu⟩ := (HX.out.adds HI.out.2).get hv
        subst ea
        obtain ⟨c0, c1, c2, c3⟩ := hu wr (Touch.refl _ _)
        obtain ⟨d0, d1, d2, d3⟩ := hu (wr.alloc (.cells #[.int .i64 v.k, .int .i64 v.n, .float .f64 v.b, .string ⟨v.t.toArray⟩] 47)) ((Touch.refl _ _).alloc _)
        clear hv hu
        obtain ⟨z, hz⟩ : ∃ z, M.right v = z := ⟨_, rfl⟩
        have HC := hid (right_z v z hz)
        rw [hz] at HE
        clear hz
        cases z with
        | true =>
          go_wp2_with (first | (go_at_call 28; refine (HC.out _).mono ?_; rintro e wa ⟨rfl, hA⟩; have Awa := hid hA; clear hA))
          go_roundw
          case rel => exact ⟨i + 1, by go_num, by omega, by rw [HI.out.1, HE.out, Bool.true_and], (HI.out.2.alloc _).trans Awa.out⟩
          case measure => simp [intOf]; omega
        | false =>
          go_wp2_with (first | (go_at_call 28; refine (HC.out _).mono ?_; rintro e wa ⟨rfl, hA⟩; have Awa := hid hA; clear hA))
          go_ret
          exact ⟨by rw [HF.out, HI.out.1, HE.out]; rfl, (HI.out.2.alloc _).trans Awa.out⟩
      · have hltz : ¬ (i : Int) < (r.length : Int) := by omega
        go_wp2_with fail
        go_ret
        exact ⟨by rw [HF.out, HI.out.1, List.drop_of_length_le (by omega)]; rfl, HI.out.2⟩
/-- A row that came in: where its values lie, whatever their number. -/
structure Raw (w : World) (x : Hd) : Prop where
  at_ : VAt w x.a x.r
  len : x.r.length ≤ maxLen
  txt : ∀ v ∈ x.r, v.t.length ≤ maxLen
/-- What is known of rows that are not too great. -/
def PBulk (w : World) (l : List Hd) (e : Ending) (w' : World) : Prop := ∃ z : Int, e = .returned (.int .i64 z) ∧ w' = w ∧ Hid (0 ≤ z ∧ z ≤ 2000 ∧ (z ≤ 600 → l.length ≤ 600 ∧ ∀ x ∈ l, x.r.length ≤ 600))
set_option maxRecDepth 100000 in
set_option maxHeartbeats 2000000 in
theorem bulk_any (a : Option Addr) (cap : Nat) (l : List Hd) (w : World) (hA : HAt w a l) (hl : l.length ≤ maxLen) (hr : ∀ x ∈ l, Raw w x) : Calls Try.prog 19 #[.slice a l.length cap, .int .i64 600] w (PBulk w l) := by
  have HA := hid hA
  have HR := hid hr
  have hl2 : (l.length : Int) ≤ 9223372036854775807 := by unfold maxLen at hl; omega
  clear hA hr hl
  by_cases h6 : 600 < l.length
  · have h6z : (600 : Int) < (l.length : Int) := by omega
    go_enter Try.func19, Try.ntmps19
    go_wp2_with fail
    go_ret
    exact ⟨601, rfl, rfl, by omega, by omega, fun h => by omega⟩
  · have h6z : ¬ (600 : Int) < (l.length : Int) := by omega
    go_enter Try.func19, Try.ntmps19
    go_wp2_with fail
    go_loopw [5, 6] (fun nv iv wr => ∃ (n : Int) (i : Nat), nv = .int .i64 n ∧ iv = .int .i64 (i : Int) ∧ 0 ≤ n ∧ n ≤ 1201 ∧ i ≤ l.length ∧ wr = w ∧ Hid (∀ k x, k < i → l[k]? = some x → x.r.length ≤ 600)) (fun _ iv _ => l.length - (intOf iv).toNat)
    case atStart => exact ⟨(l.length : Int), 0, rfl, rfl, by omega, by omega, Nat.zero_le _, rfl, fun k x h => by omega⟩
    case round =>
      obtain ⟨n, i, rfl, rfl, hn0, hn1, hi, hw, HI⟩ := hrel
      obtain rfl := hw.symm
      by_cases hlt : i < l.length
      · have hltz : (i : Int) < (l.length : Int) := by omega
        obtain ⟨x, hx⟩ : ∃ x, l[i]? = some x := ⟨l[i], List.getElem?_eq_getElem hlt⟩
        obtain ⟨b, o, ea, hu⟩ := HA.out.get hx
        subst ea
        have c0 := hu w (Touch.refl _ _)
        have hx2 := (HR.out x (List.mem_of_getElem? hx)).len
        have HV := hid (HR.out x (List.mem_of_getElem? hx))
        have HXI := hid hx
        clear hu hx
        by_cases hx6 : 600 < x.r.length
        · have hx6z : (600 : Int) < (x.r.length : Int) := by omega
          go_wp2_with fail
          go_ret
          exact ⟨601, rfl, rfl, by omega, by omega, fun h => by omega⟩
        · have hx6z : ¬ (600 : Int) < (x.r.length : Int) := by omega
          clear hx2
          go_upto_region 10 with fail
          go_loopw [5, 7] (fun nv kv wr => ∃ (n : Int) (k : Nat), nv = .int .i64 n ∧ kv = .int .i64 (k : Int) ∧ 0 ≤ n ∧ n ≤ 1201 ∧ k ≤ x.r.length ∧ wr = w) (fun _ kv _ => x.r.length - (intOf kv).toNat)
          case atStart => exact ⟨n, 0, rfl, rfl, hn0, hn1, Nat.zero_le _, by first | rfl | trivial⟩
          case round =>
            obtain ⟨n2, k, rfl, rfl, hn2, hn3, hk, hw2⟩ := hrel
            obtain rfl := hw2.symm
            by_cases hklt : k < x.r.length
            · have hkz : (k : Int) < (x.r.length : Int) := by omega
              by_cases hn6 : 600 < n2
              · go_wp2_with fail
                go_ret
                exact ⟨601, rfl, rfl, by omega, by omega, fun h => by omega⟩
              · obtain ⟨v, hv⟩ : ∃ v, x.r[k]? = some v := ⟨x.r[k], List.getElem?_eq_getElem hklt⟩
                obtain ⟨b2, o2, ea2, hu2⟩ := HV.out.at_.get hv
                obtain ⟨_, _, _, d3⟩ := hu2 w (Touch.refl _ _)
                have ht := HV.out.txt v (List.mem_of_getElem? hv)
                have ht2 : (v.t.length : Int) ≤ 9223372036854775807 := by unfold maxLen at ht; omega
                rw [ea2] at c0
                clear hv hu2 ht
                by_cases ht6 : 600 < v.t.length
                · have ht6z : (600 : Int) < (v.t.length : Int) := by omega
                  go_wp2_with fail
                  go_ret
                  exact ⟨601, rfl, rfl, by omega, by omega, fun h => by omega⟩
                · have ht6z : ¬ (600 : Int) < (v.t.length : Int) := by omega
                  go_wp2_with fail
                  go_roundw
                  case rel => exact ⟨n2 + 1 + (v.t.length : Int), k + 1, by first | rfl | go_num, by go_num, by omega, by omega, by omega, by first | rfl | trivial⟩
                  case measure => simp [intOf]; omega
            · have hkz : ¬ (k : Int) < (x.r.length : Int) := by omega
              go_wp2_with fail
              go_roundw
              case rel =>
                refine ⟨n2, i + 1, rfl, by go_num, hn2, hn3, by omega, by first | rfl | trivial, fun j y hj hy => ?_⟩
                by_cases e : j = i
                · subst e
                  obtain rfl : x = y := by have := HXI.out; rw [hy] at this; simpa using this.symm
                  omega
                · exact HI.out j y (by omega) hy
              case measure => simp [intOf]; omega
      · have hltz : ¬ (i : Int) < (l.length : Int) := by omega
        go_wp2_with fail
        go_ret
        refine ⟨n, rfl, rfl, hn0, by omega, fun _ => ⟨by omega, fun x hx => ?_⟩⟩
        obtain ⟨k, hk, e⟩ := List.getElem_of_mem hx
        exact HI.out k x (by omega) (by rw [List.getElem?_eq_getElem hk, e])
/-- Are rows too great to be asked of? -/
def PGreat (w : World) (l : List Hd) (e : Ending) (w' : World) : Prop := ∃ y : Bool, e = .returned (.bool y) ∧ w' = w ∧ Hid (y = false → l.length ≤ 600 ∧ ∀ x ∈ l, x.r.length ≤ 600)
set_option maxHeartbeats 400000 in
theorem great_any (a : Option Addr) (cap : Nat) (l : List Hd) (w : World) (hA : HAt w a l) (hl : l.length ≤ maxLen) (hr : ∀ x ∈ l, Raw w x) : Calls Try.prog 7 #[.slice a l.length cap] w (PGreat w l) := by
  have H := hid (bulk_any a cap l w hA hl hr)
  clear hA hr hl
  go_enter Try.func7, Try.ntmps7
  go_wp2_with (first | (go_at_call 19; refine H.out.mono ?_; rintro e w1 ⟨z, rfl, hw, HZ⟩; obtain rfl := hw.symm; obtain ⟨hz0, hz1, _⟩ := HZ.out))
  go_ret
  refine ⟨decide (600 < z), rfl, rfl, fun h => HZ.out.2.2 ?_⟩
  have := of_decide_eq_false h
  omega
end Go.Proofs.Ytkkmbpcmkhikkaa
