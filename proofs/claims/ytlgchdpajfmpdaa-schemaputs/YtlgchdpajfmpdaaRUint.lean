/- The reference's Uint. -/
import Derived.Test.YtlgchdpajfmpdaaUint
namespace Go.Proofs.Ytlgchdpajfmpdaa
open Go.RowKit

/-- What a call of the reference's reader tells, and what it turns. -/
def PS (w : World) (p : Nat) (x : Value) (s : M.St) (e : Ending) (w' : World) : Prop := e = .returned x ∧ IsS w' p s ∧ Touch (Own1 (.pointer (some ⟨p, 0, none⟩))) w w'

/-- A byte is read. -/
theorem IsS.next {w : World} {p : Nat} {c : UInt8} {r : List UInt8} (h : IsS w p ⟨0, c :: r⟩) :
    ∃ b o cap, w.cell? ⟨p, 0, none⟩ = some (.slice (some ⟨b, o, none⟩) (r.length + 1) cap) ∧ w.cell? ⟨p, 1, none⟩ = some (.int .i64 0) ∧ w.frozen? ⟨p, 0, none⟩ = false ∧ w.cell? ⟨b, o, none⟩ = some (.int .u8 (c.toNat : Int)) ∧ r.length + 1 ≤ cap ∧
      (∀ u e, Calls Try.prog 53 #[.pointer (some ⟨p, 0, none⟩), .int .i64 e] (w.setCell ⟨p, 0, none⟩ u) fun x w' => x = .returned (.tuple #[]) ∧ w' = w.setRow p #[.slice none 0 0, .int .i64 e]) ∧
      IsS (w.setCell ⟨p, 0, none⟩ (.slice (if cap = 1 then some ⟨b, o, none⟩ else some ⟨b, o + 1, none⟩) r.length (cap - 1))) p ⟨0, r⟩ ∧ Touch (Own1 (.pointer (some ⟨p, 0, none⟩))) w (w.setCell ⟨p, 0, none⟩ (.slice (if cap = 1 then some ⟨b, o, none⟩ else some ⟨b, o + 1, none⟩) r.length (cap - 1))) := by
  obtain ⟨a, cap, hb, hL⟩ := h.box
  obtain ⟨b, o, rfl, hc⟩ := hL.at_ 0 c rfl
  have E := fun u => show w.setCell ⟨p, 0, none⟩ u = w.setRow p #[u, .int .i64 0] from setCell_eq_setRow w p 0 _ 43 _ _ hb
  have hD := hL.drop 1 (by simp)
  have hl := h.len
  simp only [List.length_cons] at hl
  refine ⟨b, o, cap, cellOf hb 0, cellOf hb 1, frozen_of_row w p 0 _ 43 hb, hc, hL.room, fun u e => ?_, ?_⟩
  · refine (bad_box p u (.int .i64 0) e _ (by rw [E]; exact setRow_heap w p _ _ 43 _ hb)).mono ?_
    rintro x w' ⟨rfl, rfl⟩
    exact ⟨rfl, by rw [E, setRow_setRow]⟩
  · rw [Option.map_some, Addr.add_mid] at hD
    refine h.set (e := 0) (l := r) ?_ hD (fun h => absurd rfl h) (by omega) (by omega)
    rw [E]; rfl

theorem add_wrap {k m x m' u : Nat} (h1 : k ≤ 9) (h2 : m < 2 ^ (7 * k)) (h3 : x < 256) (h4 : k = 9 → x ≤ 1) (hu : u = 2 ^ (7 * k)) (hm : m' = m + x % 128 * 2 ^ (7 * k)) : IntKind.u64.wrap ((m : Int) + IntKind.u64.wrap ((x : Int) % 128 * (u : Int))) = (m' : Int) := by
  have hlt : m' < 18446744073709551616 := by
    rw [hm]
    by_cases h9 : k = 9
    · subst h9
      have := h4 rfl
      have : x % 128 ≤ 1 := by omega
      have := Nat.mul_le_mul_right (2 ^ 63) this
      omega
    · have hp : (2 : Nat) ^ (7 * (k + 1)) ≤ 2 ^ 63 := Nat.pow_le_pow_right (by decide) (by omega)
      have := grow_lt (x := x) h2
      omega
  have e : ((x : Int) % 128 * (u : Int)) = ((x % 128 * 2 ^ (7 * k) : Nat) : Int) := by rw [hu]; simp
  rw [e, IntKind.wrap_u64, IntKind.wrap_u64]
  omega
theorem mul_wrap {k u : Nat} (h1 : k < 9) (hu : u = 2 ^ (7 * k)) : IntKind.u64.wrap ((u : Int) * 128) = ((2 ^ (7 * (k + 1)) : Nat) : Int) := by
  have hp : (2 : Nat) ^ (7 * (k + 1)) ≤ 2 ^ 63 := Nat.pow_le_pow_right (by decide) (by omega)
  have e : (u : Int) * 128 = ((2 ^ (7 * (k + 1)) : Nat) : Int) := by
    rw [hu, show 7 * (k + 1) = 7 * k + 7 by omega, Nat.pow_add]; simp
  rw [e, IntKind.wrap_u64]
  omega

set_option maxRecDepth 100000 in
set_option maxHeartbeats 1000000 in
theorem ruint_box (p : Nat) (l : List UInt8) (most : Nat) (w : World) (hS : IsS w p ⟨0, l⟩) :
    Calls Try.prog 44 #[.pointer (some ⟨p, 0, none⟩), .int .u64 (most : Int)] w (PS w p (.int .u64 ((M.uintR most ⟨0, l⟩).1 : Int)) (M.uintR most ⟨0, l⟩).2) := by
  have HS := hid hS
  clear hS
  go_enter Try.func44, Try.ntmps44
  go_wp2
  go_loopw [5, 6, 7] (fun x5 x6 x7 wr => ∃ k m u : Nat, x5 = .int .u64 (m : Int) ∧ x6 = .int .u64 (u : Int) ∧ x7 = .int .i64 (k : Int) ∧ Hid (k ≤ 9 ∧ u = 2 ^ (7 * k) ∧ m < 2 ^ (7 * k) ∧ M.plus m k (M.scan k (l.drop k)) = M.scan 0 l ∧ IsS wr p ⟨0, l.drop k⟩ ∧ Touch (Own1 (.pointer (some ⟨p, 0, none⟩))) w wr)) (fun _ _ x _ => 10 - (intOf x).toNat)
  case atStart => exact ⟨0, 0, 1, rfl, rfl, rfl, by omega, by simp, by simp, M.plus_zero _, HS.out, Touch.refl _ _⟩
  case round =>
    obtain ⟨k, m, u, rfl, rfl, rfl, HI⟩ := hrel
    obtain ⟨hk, hu, hmm, hsc, hIS, hT⟩ := HI.out
    have hk10 : ¬ ((k : Int) = 10) := by omega
    cases hd : l.drop k with
    | nil =>
      have HU := hid (M.uintR_err (most := most) (s := ⟨0, l⟩) (e := 21) rfl (by rw [← hsc, hd]; exact M.plus_nil _ _))
      rw [hd] at hIS
      obtain ⟨a, cap, hbox, _⟩ := hIS.box
      have HB := hid (bad_box p _ _ 21 wr hbox)
      have HZ := hid (fun w' hw => hIS.set (w' := w') (e := 21) (l := []) hw (Lies.nil wr p) (fun _ => rfl) (by simp) (by omega))
      have c0 : wr.cell? ⟨p, 0, none⟩ = some (.slice a 0 cap) := cellOf hbox 0
      have c1 : wr.cell? ⟨p, 1, none⟩ = some (.int .i64 0) := cellOf hbox 1
      have HT := hid hT
      clear hIS hbox hsc hmm hu hd HI hT
      go_wp2_with (first | (go_at_call 53; refine HB.out.mono ?_; rintro e' w2 ⟨rfl, rfl⟩))
      go_ret
      rw [HU.out]
      exact ⟨rfl, (HZ.out _ rfl).1, HT.out.trans (HZ.out _ rfl).2⟩
    | cons c r =>
      rw [hd] at hIS hsc
      have hr : l.drop (k + 1) = r := by rw [← List.drop_drop, hd]; rfl
      obtain ⟨b, o, cap, c0, c1, f0, hcell, hcap, hbad, hn1, hn2⟩ := hIS.next
      have hc8 := c.toNat_lt
      have HB := hid hbad
      have HZ := hid (fun w' (e : Nat) (he : e ≠ 0) (h1 : e ≤ 100) hw => hIS.set (w' := w') (e := e) (l := []) hw (Lies.nil wr p) (fun _ => rfl) (by simp) h1)
      have HT := hid hT
      by_cases hb : (k = 9 ∧ 1 < c.toNat) ∨ (0 < k ∧ c.toNat = 0)
      · have HU := hid (M.uintR_err (most := most) (s := ⟨0, l⟩) (e := 22) rfl (by rw [← hsc]; exact M.plus_bad m k c _ hb))
        clear hbad hn1 hn2 hIS hsc hmm hu hr HI hT
        by_cases h9 : k = 9
        · subst h9
          have q0 : (decide (1 < (c.toNat : Int)) || ((c.toNat : Int) == 0)) = true := by simp; omega
          clear hb hd hc8
          go_wp2_with (first | (go_at_call 53; refine (HB.out _ 22).mono ?_; rintro e' w2 ⟨rfl, rfl⟩))
          all_goals (go_ret; rw [HU.out]; exact ⟨rfl, (HZ.out _ 22 (by omega) (by omega) rfl).1, HT.out.trans (HZ.out _ 22 (by omega) (by omega) rfl).2⟩)
        · have h9' : ¬ ((k : Int) = 9) := by omega
          have hk0 : (0 : Int) < (k : Int) := by omega
          have q0 : ((c.toNat : Int) == 0) = true := by simp; omega
          clear hb hd hc8
          go_wp2_with (first | (go_at_call 53; refine (HB.out _ 22).mono ?_; rintro e' w2 ⟨rfl, rfl⟩))
          all_goals (go_ret; rw [HU.out]; exact ⟨rfl, (HZ.out _ 22 (by omega) (by omega) rfl).1, HT.out.trans (HZ.out _ 22 (by omega) (by omega) rfl).2⟩)
      · obtain ⟨m', hm'⟩ : ∃ m', m' = m + c.toNat % 128 * 2 ^ (7 * k) := ⟨_, rfl⟩
        have hadd := add_wrap hk hmm hc8 (by omega) hu hm'
        have HN := hid (And.intro hn1 (hT.trans hn2))
        by_cases h128 : 128 ≤ c.toNat
        · have h128' : ¬ ((c.toNat : Int) < 128) := by omega
          have h9' : ¬ ((k : Int) = 9) := by omega
          have q0 : ((c.toNat : Int) == 0) = false := by simp; omega
          have hk9 : k < 9 := by omega
          have hmul := mul_wrap hk9 hu
          have HG := hid (show k + 1 ≤ 9 ∧ m' < 2 ^ (7 * (k + 1)) ∧ M.plus m' (k + 1) (M.scan (k + 1) (l.drop (k + 1))) = M.scan 0 l from
            ⟨by omega, by rw [hm']; exact grow_lt hmm, by rw [hr, hm', ← M.plus_more m k c _ hb h128]; exact hsc⟩)
          have HRR := hid hr
          obtain ⟨u', hu'⟩ : ∃ u', u' = 2 ^ (7 * (k + 1)) := ⟨_, rfl⟩
          rw [← hu'] at hmul
          have HU' := hid hu'
          clear hbad hn1 hn2 hIS hsc hmm hu hr HI hT hb hd hm' hu'
          go_wp2
          all_goals (go_roundw)
          all_goals first
            | exact ⟨k + 1, m', u', rfl, rfl, by go_num, HG.out.1, HU'.out, HG.out.2.1, HG.out.2.2, by rw [HRR.out]; exact HN.out.1, HN.out.2⟩
            | (simp [intOf]; omega)
        · have h128' : (c.toNat : Int) < 128 := by omega
          have HS := (show M.scan 0 l = .ok (m', r) by rw [hm', ← M.plus_last m k c _ hb h128]; exact hsc.symm)
          have HE := hid (fun (hle : ¬ most < m') => M.uintR_ok (s := ⟨0, l⟩) rfl HS hle)
          have HU := hid (fun (hbig : most < m') => M.uintR_big (s := ⟨0, l⟩) rfl HS hbig)
          clear HS
          by_cases h9 : k = 9
          · subst h9
            have hc1 : c.toNat = 1 := by omega
            clear hbad hn1 hn2 hIS hsc hmm hu hr HI hT hb hd hm' h128 hc8
            rw [hc1] at hadd hcell h128'
            simp at hadd
            go_wp2_with (first | (go_at_call 53; refine (HB.out _ 3).mono ?_; rintro e' w2 ⟨rfl, rfl⟩))
            all_goals first
              | (go_ret; rw [HU.out (by omega)]; exact ⟨rfl, (HZ.out _ 3 (by omega) (by omega) rfl).1, HT.out.trans (HZ.out _ 3 (by omega) (by omega) rfl).2⟩)
              | (go_ret; rw [HE.out (by omega)]; exact ⟨rfl, (by have h := HN.out.1; first | exact h | (rw [if_neg (by omega)] at h; exact h) | (have hc : cap = 1 := (by omega); rw [if_pos hc, hc] at h; exact h)), (by have h := HN.out.2; first | exact h | (rw [if_neg (by omega)] at h; exact h) | (have hc : cap = 1 := (by omega); rw [if_pos hc, hc] at h; exact h))⟩)
          · have h9' : ¬ ((k : Int) = 9) := by omega
            by_cases hz : c.toNat = 0
            · have hk0 : ¬ 0 < k := by omega
              clear hbad hn1 hn2 hIS hsc hmm hu hr HI hT hb hd hm' h128 hz
              go_wp2_with (first | (go_at_call 53; refine (HB.out _ 3).mono ?_; rintro e' w2 ⟨rfl, rfl⟩))
              all_goals first
                | (go_ret; rw [HU.out (by omega)]; exact ⟨rfl, (HZ.out _ 3 (by omega) (by omega) rfl).1, HT.out.trans (HZ.out _ 3 (by omega) (by omega) rfl).2⟩)
                | (go_ret; rw [HE.out (by omega)]; exact ⟨rfl, (by have h := HN.out.1; first | exact h | (rw [if_neg (by omega)] at h; exact h) | (have hc : cap = 1 := (by omega); rw [if_pos hc, hc] at h; exact h)), (by have h := HN.out.2; first | exact h | (rw [if_neg (by omega)] at h; exact h) | (have hc : cap = 1 := (by omega); rw [if_pos hc, hc] at h; exact h))⟩)
            · have q0 : ((c.toNat : Int) == 0) = false := by simp; omega
              clear hbad hn1 hn2 hIS hsc hmm hu hr HI hT hb hd hm' h128 hz
              go_wp2_with (first | (go_at_call 53; refine (HB.out _ 3).mono ?_; rintro e' w2 ⟨rfl, rfl⟩))
              all_goals first
                | (go_ret; rw [HU.out (by omega)]; exact ⟨rfl, (HZ.out _ 3 (by omega) (by omega) rfl).1, HT.out.trans (HZ.out _ 3 (by omega) (by omega) rfl).2⟩)
                | (go_ret; rw [HE.out (by omega)]; exact ⟨rfl, (by have h := HN.out.1; first | exact h | (rw [if_neg (by omega)] at h; exact h) | (have hc : cap = 1 := (by omega); rw [if_pos hc, hc] at h; exact h)), (by have h := HN.out.2; first | exact h | (rw [if_neg (by omega)] at h; exact h) | (have hc : cap = 1 := (by omega); rw [if_pos hc, hc] at h; exact h))⟩)
set_option maxHeartbeats 400000 in
theorem ruint_ref (p : Nat) (n : Int) (e : Nat) (w : World) (he : e ≠ 0) (c1 : w.cell? ⟨p, 1, none⟩ = some (.int .i64 (e : Int))) :
    Calls Try.prog 44 #[.pointer (some ⟨p, 0, none⟩), .int .u64 n] w fun r w' => r = .returned (.int .u64 0) ∧ w' = w := by
  have h1 : ¬ ((e : Int) = 0) := by omega
  clear he
  go_enter Try.func44, Try.ntmps44
  go_wp2
  go_loopw [] (fun wr => wr = w) (fun _ => 0)
  case atStart => exact rfl
  case round =>
    subst hrel
    go_wp2
    go_ret
    exact ⟨rfl, rfl⟩
theorem ruint_any {p : Nat} {s : M.St} {w : World} (most : Nat) (h : IsS w p s) : Calls Try.prog 44 #[.pointer (some ⟨p, 0, none⟩), .int .u64 (most : Int)] w (PS w p (.int .u64 ((M.uintR most s).1 : Int)) (M.uintR most s).2) := by
  by_cases he : s.e = 0
  · have hs : s = ⟨0, s.l⟩ := by cases s; simp at he; rw [he]
    rw [hs] at h ⊢
    exact ruint_box p s.l most w h
  · obtain ⟨a, cap, hb, _⟩ := h.box
    refine (ruint_ref p most s.e w he (cellOf hb 1)).mono ?_
    rintro e w' ⟨rfl, rfl⟩
    rw [M.uintR_ref he]
    exact ⟨rfl, h, Touch.refl _ _⟩
end Go.Proofs.Ytlgchdpajfmpdaa
