/- Texts put together: Uint, RUint, Fixed, Reads. -/
import Derived.Test.YtlgbgedkedddaaaDoorQ02
/- A reader's Uint. -/
namespace Go.Proofs.YtlgbgedkedddaaaDoor
open Go.RowKit

/-- What Uint does to a reader that has not refused. -/
def PU (p : Nat) (a : Option Addr) (l : List UInt8) (cap most : Nat) (w : World) (r : Ending) (w' : World) : Prop :=
  r = .returned (.int .u64 ((M.uintR most ⟨0, l⟩).1 : Int)) ∧
  ((∃ e : Nat, e ≠ 0 ∧ e ≤ 100 ∧ (M.uintR most ⟨0, l⟩).2 = ⟨e, []⟩ ∧ w' = w.setRow p #[.bool true, .int .i64 (e : Int), .slice none 0 0]) ∨
   ∃ k, k ≤ l.length ∧ (M.uintR most ⟨0, l⟩).2 = ⟨0, l.drop k⟩ ∧ w' = w.setRow p #[.bool true, .int .i64 0, .slice (if cap = k then a else a.map (·.add k)) (l.length - k) (cap - k)])

/-- What holds at the jump. -/
def JU (p : Nat) (l : List UInt8) (most : Nat) (w : World) (a' : Act) (w' : World) : Prop :=
  ∃ e : Nat, (e ≠ 0 ∧ e ≤ 100 ∧ M.uintR most ⟨0, l⟩ = (0, ⟨e, []⟩)) ∧ w' = w ∧ ∃ (u1 u2 u3 u4 u5 u7 u8 u9 u10 u11 u12 u13 u14 u15 u16 u17 u18 u19 u20 u21 u22 u23 u24 u25 u26 u27 u28 u29 u30 u31 u32 u33 u34 u35 u36 u37 u38 u39 u40 u41 u42 u43 u44 u45 u46 u47 u48 u49 u50 u51 u52 u53 u54 u55 u56 u57 u58 u59 u60 u61 u62 u63 : Value), a' = { tmps := #[.pointer (some ⟨p, 0, none⟩), u1, u2, u3, u4, u5, .int .i64 (e : Int), u7, u8, u9, u10, u11, u12, u13, u14, u15, u16, u17, u18, u19, u20, u21, u22, u23, u24, u25, u26, u27, u28, u29, u30, u31, u32, u33, u34, u35, u36, u37, u38, u39, u40, u41, u42, u43, u44, u45, u46, u47, u48, u49, u50, u51, u52, u53, u54, u55, u56, u57, u58, u59, u60, u61, u62, u63], defers := [] }

theorem or_add (m x i : Nat) (h : m < 2 ^ i) : m ||| (x * 2 ^ i) = m + x * 2 ^ i := by
  rw [Nat.or_comm, Nat.mul_comm, Nat.add_comm, Nat.two_pow_add_eq_or_of_lt h]

theorem grow_lt {m x k : Nat} (h : m < 2 ^ (7 * k)) : m + x % 128 * 2 ^ (7 * k) < 2 ^ (7 * (k + 1)) := by
  rw [show 7 * (k + 1) = 7 * k + 7 by omega, Nat.pow_add]
  generalize 2 ^ (7 * k) = y at *
  have h1 : x % 128 < 128 := Nat.mod_lt _ (by decide)
  have h2 : (x % 128 + 1) * y ≤ 128 * y := Nat.mul_le_mul_right _ h1
  rw [Nat.add_mul] at h2
  rw [show (2 : Nat) ^ 7 = 128 from rfl, Nat.mul_comm y 128]
  omega
theorem or_wrap {k m x m' : Nat} (h1 : k ≤ 9) (h2 : m < 2 ^ (7 * k)) (h3 : x < 256) (h4 : k = 9 → x ≤ 1) (hm : m' = m + x % 128 * 2 ^ (7 * k)) : bits .or .u64 (m : Int) (IntKind.u64.wrap ((x : Int) % 128 * 2 ^ (7 * k))) = (m' : Int) := by
  have hp : (2 : Nat) ^ (7 * k) ≤ 2 ^ 63 := Nat.pow_le_pow_right (by decide) (by omega)
  have hlt : x % 128 * 2 ^ (7 * k) < 18446744073709551616 := by
    by_cases h9 : k = 9
    · subst h9
      have := h4 rfl
      have : x % 128 ≤ 1 := by omega
      have := Nat.mul_le_mul_right (2 ^ 63) this
      omega
    · have hp : (2 : Nat) ^ (7 * k) ≤ 2 ^ 56 := Nat.pow_le_pow_right (by decide) (by omega)
      have := Nat.mul_le_mul (show x % 128 ≤ 127 by omega) hp
      omega
  have e : ((x : Int) % 128 * 2 ^ (7 * k)) = ((x % 128 * 2 ^ (7 * k) : Nat) : Int) := by simp
  rw [e, IntKind.wrap_u64, show ((x % 128 * 2 ^ (7 * k) : Nat) : Int) % 18446744073709551616 = ((x % 128 * 2 ^ (7 * k) : Nat) : Int) by omega, bits_or_u64_nat _ _ (by omega) hlt, or_add _ _ _ h2, hm]

set_option maxRecDepth 100000 in
set_option maxHeartbeats 1000000 in
theorem uint_box (p : Nat) (a : Option Addr) (l : List UInt8) (cap most : Nat) (w : World) (hb : w.heap[p]? = some (.cells #[.bool true, .int .i64 0, .slice a l.length cap] 107 (0, 0))) (hA : At w a l) (hc : l.length ≤ cap) (hl : l.length ≤ 1000000) :
    Calls Tryd.prog 54 #[.pointer (some ⟨p, 0, none⟩), .int .u64 (most : Int)] w (PU p a l cap most w) := by
  have H := hid (err_yes p 0 w (cellOf hb 0) (cellOf hb 1))
  have HR := hid (fun e : Nat => refuse_box p _ _ _ (e : Int) w hb)
  have c2 : w.cell? ⟨p, 2, none⟩ = some (.slice a l.length cap) := cellOf hb 2
  have f2 : w.frozen? ⟨p, 2, none⟩ = false := frozen_of_row w p 2 _ 107 hb
  have E := hid (fun u => show w.setCell ⟨p, 2, none⟩ u = w.setRow p #[.bool true, .int .i64 0, u] from setCell_eq_setRow w p 2 _ 107 _ _ hb)
  have HA := hid hA
  clear hb hA
  go_enter Tryd.func54, Tryd.ntmps54
  go_wp2
  refine wp_scope_jumps 0 (JU p l most w) (fun _ _ => 0) rfl ?_ ?_
  · go_wp2_with (first | (go_at_call 77; refine H.out.mono ?_; rintro e w' ⟨rfl, rfl⟩))
    go_loopw [5, 6, 17] (fun x5 x6 x17 wr => ∃ k m : Nat, k ≤ l.length ∧ Hid (k ≤ 9 ∧ m < 2 ^ (7 * k) ∧ M.plus m k (M.scan k (l.drop k)) = M.scan 0 l) ∧ x5 = .int .u64 (m : Int) ∧ x6 = .int .i64 21 ∧ x17 = .int .i64 (k : Int) ∧ wr = w') (fun _ _ x _ => l.length - (intOf x).toNat)
    case atStart => exact ⟨0, 0, by omega, ⟨by omega, by simp, M.plus_zero _⟩, rfl, rfl, rfl, rfl⟩
    case round =>
      obtain ⟨k, m, hk, HI, rfl, rfl, rfl, rfl⟩ := hrel
      by_cases hlt : k < l.length
      · obtain ⟨c, hcc⟩ : ∃ c, l[k]? = some c := ⟨l[k], List.getElem?_eq_getElem hlt⟩
        obtain ⟨b, o, rfl, hcell⟩ := HA.out k c hcc
        have hdrop : l.drop k = c :: l.drop (k + 1) := by rw [List.drop_eq_getElem_cons hlt]; rw [List.getElem?_eq_getElem hlt] at hcc; simp at hcc; rw [hcc]
        have hc8 := c.toNat_lt
        by_cases hbad : (k = 9 ∧ 1 < c.toNat) ∨ (0 < k ∧ c.toNat = 0)
        · have HS := hid (show M.uintR most ⟨0, l⟩ = (0, ⟨22, []⟩) from M.uintR_err rfl (show M.scan 0 l = .error 22 by rw [← HI.out.2.2, hdrop]; exact M.plus_bad m k c _ hbad))
          by_cases h9 : k = 9
          · subst h9
            have q0 : (decide (1 < (c.toNat : Int)) || ((c.toNat : Int) == 0)) = true := by simp; omega
            clear hbad hdrop hc8
            go_wp2
            all_goals (go_step3; exact ⟨rfl, 22, ⟨by omega, by omega, HS.out⟩, rfl, ⟨_, _, _, _, _, _, _, _, _, _, _, _, _, _, _, _, _, _, _, _, _, _, _, _, _, _, _, _, _, _, _, _, _, _, _, _, _, _, _, _, _, _, _, _, _, _, _, _, _, _, _, _, _, _, _, _, _, _, _, _, _, _, rfl⟩⟩)
          · have h9' : ¬ ((k : Int) = 9) := by omega
            have hk0 : (0 : Int) < (k : Int) := by omega
            have q0 : ((c.toNat : Int) == 0) = true := by simp; omega
            clear hbad hdrop hc8
            go_wp2
            all_goals (go_step3; exact ⟨rfl, 22, ⟨by omega, by omega, HS.out⟩, rfl, ⟨_, _, _, _, _, _, _, _, _, _, _, _, _, _, _, _, _, _, _, _, _, _, _, _, _, _, _, _, _, _, _, _, _, _, _, _, _, _, _, _, _, _, _, _, _, _, _, _, _, _, _, _, _, _, _, _, _, _, _, _, _, _, rfl⟩⟩)
        · obtain ⟨hI1, hI2, hI3⟩ := HI.out
          obtain ⟨m', hm'⟩ : ∃ m', m' = m + c.toNat % 128 * 2 ^ (7 * k) := ⟨_, rfl⟩
          have hor : bits .or .u64 (m : Int) (IntKind.u64.wrap ((c.toNat : Int) % 128 * 2 ^ (7 * k))) = (m' : Int) := or_wrap hI1 hI2 hc8 (by omega) hm'
          by_cases h128 : 128 ≤ c.toNat
          · have h9 : k ≠ 9 := by omega
            have h9' : ¬ ((k : Int) = 9) := by omega
            have h128' : (128 : Int) ≤ (c.toNat : Int) := by omega
            have q0 : ((c.toNat : Int) == 0) = false := by simp; omega
            have hk9 : k < 9 := by omega
            have HN := hid (show k + 1 ≤ 9 ∧ m' < 2 ^ (7 * (k + 1)) ∧ M.plus m' (k + 1) (M.scan (k + 1) (l.drop (k + 1))) = M.scan 0 l from
              ⟨by omega, by rw [hm']; exact grow_lt hI2, by rw [hm', ← M.plus_more m k c _ hbad h128, ← hdrop]; exact hI3⟩)
            clear hbad hdrop hm' hI1 hI2 hI3 HI
            go_wp2
            all_goals (go_roundw)
            all_goals first
              | exact ⟨k + 1, m', by omega, HN, rfl, rfl, by go_num, by first | rfl | trivial⟩
              | (simp [intOf]; omega)
          · have HS := hid (show M.scan 0 l = .ok (m', l.drop (k + 1)) by rw [hm', ← M.plus_last m k c _ hbad h128, ← hdrop]; exact hI3.symm)
            have h128' : ¬ ((128 : Int) ≤ (c.toNat : Int)) := by omega
            have HE := hid (fun (hle : ¬ most < m') => M.uintR_ok (s := ⟨0, l⟩) rfl HS.out hle)
            have HU := hid (fun (hbig : most < m') => M.uintR_big (s := ⟨0, l⟩) rfl HS.out hbig)
            clear HS
            by_cases h9 : k = 9
            · subst h9
              have hc1 : c.toNat = 1 := by omega
              clear hbad hdrop hm' hI1 hI2 hI3 HI h128
              rw [hc1] at hor hcell h128'
              simp [IntKind.wrap_u64] at hor
              go_wp2
              all_goals first
                | (go_step3; exact ⟨rfl, 3, ⟨by omega, by omega, HU.out (by omega)⟩, rfl, ⟨_, _, _, _, _, _, _, _, _, _, _, _, _, _, _, _, _, _, _, _, _, _, _, _, _, _, _, _, _, _, _, _, _, _, _, _, _, _, _, _, _, _, _, _, _, _, _, _, _, _, _, _, _, _, _, _, _, _, _, _, _, _, rfl⟩⟩)
                | (simp only [Exit.jump]; go_ret; refine ⟨?_, .inr ⟨10, by omega, ?_, ?_⟩⟩ <;> first | (rw [HE.out (by omega)]; rfl) | (rw [HE.out (by omega)]) | (rw [E.out]; simp; done) | (rw [E.out, if_neg (by omega)]; simp [Addr.add_mid]; done))
            · have h9' : ¬ ((k : Int) = 9) := by omega
              by_cases hz : c.toNat = 0
              · have hk0 : ¬ 0 < k := by omega
                clear hbad hdrop hm' hI1 hI2 hI3 HI h128 hz
                go_wp2
                all_goals first
                  | (go_step3; exact ⟨rfl, 3, ⟨by omega, by omega, HU.out (by omega)⟩, rfl, ⟨_, _, _, _, _, _, _, _, _, _, _, _, _, _, _, _, _, _, _, _, _, _, _, _, _, _, _, _, _, _, _, _, _, _, _, _, _, _, _, _, _, _, _, _, _, _, _, _, _, _, _, _, _, _, _, _, _, _, _, _, _, _, rfl⟩⟩)
                  | (simp only [Exit.jump]; go_ret; refine ⟨?_, .inr ⟨k + 1, by omega, ?_, ?_⟩⟩ <;> first | (rw [HE.out (by omega)]; rfl) | (rw [HE.out (by omega)]) | (rw [E.out]; simp; done) | (rw [E.out, if_neg (by omega)]; simp [Addr.add_mid]; done))
              · have q0 : ((c.toNat : Int) == 0) = false := by simp; omega
                have hk9 : k < 9 := by omega
                clear hbad hdrop hm' hI1 hI2 hI3 HI h128 hz
                go_wp2
                all_goals first
                  | (go_step3; exact ⟨rfl, 3, ⟨by omega, by omega, HU.out (by omega)⟩, rfl, ⟨_, _, _, _, _, _, _, _, _, _, _, _, _, _, _, _, _, _, _, _, _, _, _, _, _, _, _, _, _, _, _, _, _, _, _, _, _, _, _, _, _, _, _, _, _, _, _, _, _, _, _, _, _, _, _, _, _, _, _, _, _, _, rfl⟩⟩)
                  | (simp only [Exit.jump]; go_ret; refine ⟨?_, .inr ⟨k + 1, by omega, ?_, ?_⟩⟩ <;> first | (rw [HE.out (by omega)]; rfl) | (rw [HE.out (by omega)]) | (rw [E.out]; simp; done) | (rw [E.out, if_neg (by omega)]; simp [Addr.add_mid]; done))
      · obtain rfl : k = l.length := by omega
        have HU := hid (M.uintR_err (most := most) (s := ⟨0, l⟩) (e := 21) rfl (by rw [← HI.out.2.2, List.drop_length]; exact M.plus_nil _ _))
        clear HI
        go_wp2
        go_step3
        go_wp2_with (first | (go_at_call 78; refine (HR.out 21).mono ?_; rintro e' w2 ⟨rfl, rfl⟩))
        simp only [Exit.jump]
        go_ret
        refine ⟨?_, .inl ⟨21, by omega, by omega, ?_, rfl⟩⟩
        · rw [HU.out]; rfl
        · rw [HU.out]
  · rintro a' w' ⟨e, he, rfl, u1, u2, u3, u4, u5, u7, u8, u9, u10, u11, u12, u13, u14, u15, u16, u17, u18, u19, u20, u21, u22, u23, u24, u25, u26, u27, u28, u29, u30, u31, u32, u33, u34, u35, u36, u37, u38, u39, u40, u41, u42, u43, u44, u45, u46, u47, u48, u49, u50, u51, u52, u53, u54, u55, u56, u57, u58, u59, u60, u61, u62, u63, rfl⟩
    go_wp2_with (first | (go_at_call 78; refine (HR.out e).mono ?_; rintro e' w2 ⟨rfl, rfl⟩))
    simp only [Exit.jump]
    go_ret
    refine ⟨?_, .inl ⟨e, he.1, he.2.1, ?_, rfl⟩⟩
    · rw [he.2.2]; rfl
    · rw [he.2.2]
set_option maxHeartbeats 400000 in
theorem uint_ref (v : Value) (n : Int) (e : Nat) (w : World) (he : e ≠ 0) (H : Hid (Calls Tryd.prog 77 #[v] w fun r w' => r = .returned (.int .i64 (e : Int)) ∧ w' = w)) :
    Calls Tryd.prog 54 #[v, .int .u64 n] w fun r w' => r = .returned (.int .u64 0) ∧ w' = w := by
  have h1 : ¬ ((e : Int) = 0) := by omega
  clear he
  go_enter Tryd.func54, Tryd.ntmps54
  go_wp2
  go_step3
  go_wp2_with (go_at_call 77; refine H.out.mono ?_; rintro e w' ⟨rfl, rfl⟩)
  simp only [Exit.noGoto]
  go_ret
  exact ⟨rfl, rfl⟩
/-- What a reader's call tells, and what it turns. -/
def PR (w : World) (v x : Value) (s : M.St) (e : Ending) (w' : World) : Prop := e = .returned x ∧ RD w' v s ∧ Touch (Own1 v) w w'
theorem uint_any {v : Value} {s : M.St} {w : World} (most : Nat) (h : RD w v s) : Calls Tryd.prog 54 #[v, .int .u64 (most : Int)] w (PR w v (.int .u64 ((M.uintR most s).1 : Int)) (M.uintR most s).2) := by
  by_cases he : s.e = 0
  · obtain ⟨p, rfl, hR⟩ := h.made he
    obtain ⟨a, cap, hb, hL⟩ := hR.box
    have hs : s = ⟨0, s.l⟩ := by cases s; simp at he; rw [he]
    rw [he] at hb
    refine (uint_box p a s.l cap most w hb hL.at_ hL.room hR.len).mono ?_
    rintro e w' ⟨rfl, h2⟩
    rw [← hs] at h2
    rw [← hs]
    rcases h2 with ⟨e, h0, h1, h2, hw⟩ | ⟨k, hk, h2, hw⟩
    · obtain ⟨h3, h4⟩ := hR.set (e := e) (l := []) hw (Lies.nil w p) (fun _ => rfl) (by simp) h1
      rw [h2]
      exact ⟨rfl, .inr (.inr ⟨p, rfl, h3⟩), h4⟩
    · rw [← List.length_drop] at hw
      obtain ⟨h3, h4⟩ := hR.set (e := 0) (l := s.l.drop k) hw (hL.drop k hk) (fun h => absurd rfl h) (by rw [List.length_drop]; have := hR.len; omega) (by omega)
      rw [h2]
      exact ⟨rfl, .inr (.inr ⟨p, rfl, h3⟩), h4⟩
  · refine (uint_ref v most s.e w he (err_any h)).mono ?_
    rintro e w' ⟨rfl, rfl⟩
    rw [M.uintR_ref he]
    exact ⟨rfl, h, Touch.refl _ _⟩
end Go.Proofs.YtlgbgedkedddaaaDoor

/- The reference's Uint. -/
namespace Go.Proofs.YtlgbgedkedddaaaDoor
open Go.RowKit

theorem add_wrap {k m x m' u : Nat} (h1 : k ≤ 9) (h2 : m < 2 ^ (7 * k)) (h3 : x < 256) (h4 : k = 9 → x ≤ 1) (hu : u = 2 ^ (7 * k)) (hm : m' = m + x % 128 * 2 ^ (7 * k)) : IntKind.u64.wrap ((m : Int) + IntKind.u64.wrap ((x : Int) % 128 * (u : Int))) = (m' : Int) := by
  have hlt : m' < 18446744073709551616 := by
    rw [hm]
    by_cases h9 : k = 9
    · subst h9
      have := h4 rfl
      have : x % 128 ≤ 1 := by omega
      have := Nat.mul_le_mul_right (2 ^ 63) this
      omega
    · have hp : (2 : Nat) ^ (7 * (k + 1)) ≤ 2 ^ 63 := Nat.pow_le_pow_right (by decide) (by omega)
      have := grow_lt (x := x) h2
      omega
  have e : ((x : Int) % 128 * (u : Int)) = ((x % 128 * 2 ^ (7 * k) : Nat) : Int) := by rw [hu]; simp
  rw [e, IntKind.wrap_u64, IntKind.wrap_u64]
  omega
theorem mul_wrap {k u : Nat} (h1 : k < 9) (hu : u = 2 ^ (7 * k)) : IntKind.u64.wrap ((u : Int) * 128) = ((2 ^ (7 * (k + 1)) : Nat) : Int) := by
  have hp : (2 : Nat) ^ (7 * (k + 1)) ≤ 2 ^ 63 := Nat.pow_le_pow_right (by decide) (by omega)
  have e : (u : Int) * 128 = ((2 ^ (7 * (k + 1)) : Nat) : Int) := by
    rw [hu, show 7 * (k + 1) = 7 * k + 7 by omega, Nat.pow_add]; simp
  rw [e, IntKind.wrap_u64]
  omega

end Go.Proofs.YtlgbgedkedddaaaDoor

/- Fixed, Byte, Int, Text and Float, of a reader and of the reference's. -/
namespace Go.Proofs.YtlgbgedkedddaaaDoor
open Go.RowKit

theorem take_next {bs : List UInt8} {k : Nat} {c : UInt8} (h : bs[k]? = some c) : bs.take (k + 1) = bs.take k ++ [c] := by
  rw [List.take_add_one, h]; rfl
theorem unfix_step {t : List UInt8} {k : Nat} {c : UInt8} (h : t[k]? = some c) (h8 : t.length ≤ 8) :
    M.unfix (t.take (k + 1)) = M.unfix (t.take k) * 256 + c.toNat ∧ M.unfix (t.take k) * 256 < 18446744073709551616 ∧ M.unfix (t.take k) * 256 + c.toNat < 18446744073709551616 := by
  have hk : k < t.length := by
    rcases Nat.lt_or_ge k t.length with h1 | h1
    · exact h1
    · rw [List.getElem?_eq_none h1] at h; cases h
  have hc := c.toNat_lt
  have h1 := (M.fix_unfix k (t.take k) (by rw [List.length_take]; omega)).2
  have h2 : 256 ^ k ≤ 256 ^ 7 := Nat.pow_le_pow_right (by decide) (by omega)
  refine ⟨by rw [take_next h, M.unfix_snoc], ?_, ?_⟩ <;> omega
theorem or_byte (x : Nat) (c : UInt8) (h : x * 256 < 18446744073709551616) : bits .or .u64 ((x : Int) * 256) (c.toNat : Int) = ((x * 256 + c.toNat : Nat) : Int) := by
  have hc := c.toNat_lt
  rw [show (x : Int) * 256 = ((x * 256 : Nat) : Int) by omega, bits_or_u64_nat _ _ h (by omega), Nat.or_comm, show x * 256 = x * 2 ^ 8 from rfl, or_add _ _ 8 (by omega), Nat.add_comm]

set_option maxRecDepth 100000 in
set_option maxHeartbeats 1000000 in
theorem fixed_any {v : Value} {s : M.St} {w : World} (z : Int) (h : RD w v s) : Calls Tryd.prog 67 #[v, .int .i64 z] w (PR w v (.int .u64 ((M.fixedR z s).1 : Int)) (M.fixedR z s).2) := by
  have H1 := hid (within_any z w)
  have H2 := hid (take_any (M.clamp z) h)
  clear h
  go_enter Tryd.func67, Tryd.ntmps67
  go_wp2_with (first
    | (go_at_call 75; refine H1.out.mono ?_; rintro e w' ⟨rfl, rfl⟩)
    | (go_at_call 79; refine H2.out.mono ?_; rintro e w2 ⟨a, cap, rfl, hAt, hRD, hT⟩; have HA := hid hAt; have HR := hid (And.intro hRD hT); clear hAt hRD hT))
  obtain ⟨t, ht⟩ : ∃ t, (M.takeR (M.clamp z) s).1 = t := ⟨_, rfl⟩
  have HF := hid (show M.unfix t = (M.fixedR z s).1 by rw [← ht]; rfl)
  have h8 : t.length ≤ 8 := by rw [← ht]; exact Nat.le_trans (M.takeR_len _ _) (M.clamp_le z)
  rw [ht] at HA ⊢
  clear ht
  go_loopw [5, 13] (fun x i wr => ∃ k : Nat, k ≤ t.length ∧ x = .int .u64 (M.unfix (t.take k) : Int) ∧ i = .int .i64 (k : Int) ∧ wr = w2) (fun _ i _ => t.length - (intOf i).toNat)
  case atStart => exact ⟨0, by omega, rfl, rfl, rfl⟩
  case round =>
    obtain ⟨k, hk, rfl, rfl, rfl⟩ := hrel
    by_cases hlt : k < t.length
    · obtain ⟨c, hc⟩ : ∃ c, t[k]? = some c := ⟨t[k], List.getElem?_eq_getElem hlt⟩
      obtain ⟨b, o, rfl, hcell⟩ := HA.out k c hc
      obtain ⟨h1, h2, h3⟩ := unfix_step hc h8
      have HN := hid h1
      clear hc h1
      generalize M.unfix (t.take k) = x at *
      have hor := or_byte x c h2
      go_wp2
      go_roundw
      case rel => exact ⟨k + 1, by omega, by rw [HN.out]; simp, by go_num, by first | rfl | trivial⟩
      case measure => simp [intOf]; omega
    · obtain rfl : k = t.length := by omega
      go_wp2
      go_ret
      refine ⟨?_, HR.out.1, HR.out.2⟩
      show Ending.returned (.int .u64 ((M.unfix (t.take t.length) : Nat) : Int)) = _
      rw [List.take_length, HF.out]

end Go.Proofs.YtlgbgedkedddaaaDoor

/- Int, Text and Float, of a reader and of the reference's. -/
namespace Go.Proofs.YtlgbgedkedddaaaDoor
open Go.RowKit

theorem xor_nought (x : Int) : bits .xor .i64 x 0 = IntKind.i64.wrap x := by
  show IntKind.i64.wrap ((BitVec.ofInt 64 x ^^^ BitVec.ofInt 64 0).toNat : Int) = _
  rw [show BitVec.ofInt 64 0 = 0#64 from rfl, BitVec.xor_zero, BitVec.toNat_ofInt, IntKind.wrap_i64, IntKind.wrap_i64]
  omega
theorem xor_ones (x : Int) : bits .xor .i64 x (-1) = IntKind.i64.wrap (-x - 1) := by
  show IntKind.i64.wrap ((BitVec.ofInt 64 x ^^^ BitVec.ofInt 64 (-1)).toNat : Int) = _
  rw [show BitVec.ofInt 64 (-1) = BitVec.allOnes 64 from rfl, BitVec.xor_allOnes, BitVec.toNat_not, BitVec.toNat_ofInt, IntKind.wrap_i64, IntKind.wrap_i64]
  omega
theorem and_one (n : Nat) (h : n < 18446744073709551616) : bits .and .u64 (n : Int) 1 = ((n % 2 : Nat) : Int) := by
  rw [show (1 : Int) = ((1 : Nat) : Int) from rfl, bits_and_u64_nat _ _ h (by omega), show (1 : Nat) = 2 ^ 1 - 1 from rfl, Nat.and_two_pow_sub_one_eq_mod]
theorem unzig_bits (n : Nat) (h : n < 18446744073709551616) : bits .xor .i64 ((n : Int) / 2) (wrap64 (-wrap64 (bits .and .u64 (n : Int) 1))) = M.unzig n := by
  rw [and_one n h]
  by_cases h2 : n % 2 = 1
  · rw [M.unzig, if_pos h2, h2, show wrap64 (-wrap64 ((1 : Nat) : Int)) = -1 by simp [wrap64], xor_ones, IntKind.wrap_i64]
    omega
  · rw [M.unzig, if_neg h2, show n % 2 = 0 by omega, show wrap64 (-wrap64 ((0 : Nat) : Int)) = 0 by simp [wrap64], xor_nought, IntKind.wrap_i64]
    omega

set_option maxHeartbeats 400000 in
theorem text_any {v : Value} {s : M.St} {w : World} (z : Int) (hz : -9223372036854775808 ≤ z ∧ z ≤ 9223372036854775807) (h : RD w v s) : Calls Tryd.prog 55 #[v, .int .i64 z] w (PR w v (Str (M.textR z s).1) (M.textR z s).2) := by
  have H := hid (uint_any (M.atLeast0 z) h)
  obtain ⟨u, hu⟩ : ∃ u, M.uintR (M.atLeast0 z) s = u := ⟨_, rfl⟩
  have hle : u.1 ≤ M.atLeast0 z := by rw [← hu]; exact (M.uintR_lt _ s).2
  have HX := hid (show M.textR z s = M.takeR u.1 u.2 by rw [← hu]; rfl)
  rw [hu] at H
  clear h hu
  obtain ⟨n, s'⟩ := u
  have H2 := hid (fun w' (h : RD w' v s') => take_any n h)
  rw [HX.out]
  by_cases hz0 : z < 0
  · have hat : (M.atLeast0 z : Int) = 0 := by rw [M.atLeast0, if_pos hz0]; rfl
    have hn : (n : Int) ≤ 9223372036854775807 := by simp only at hle; omega
    rw [hat] at H
    clear hle hat HX
    go_enter Tryd.func55, Tryd.ntmps55
    go_wp2_with (first
      | (go_at_call 54; refine H.out.mono ?_; rintro e w1 ⟨rfl, h1, h2⟩; have HR := hid h1; have HT := hid h2; clear h1 h2)
      | (go_at_call 79; refine (H2.out _ HR.out).mono ?_; rintro e w2 ⟨a, cap, rfl, hAt, hRD, hT⟩; have hcv := conv_at w2 a _ cap hAt; have HQ := hid (And.intro hRD hT); clear hAt hRD hT))
    all_goals first | omega | (go_ret; exact ⟨rfl, HQ.out.1, HT.out.trans HQ.out.2⟩)
  · have hat : (M.atLeast0 z : Int) = z := by rw [M.atLeast0, if_neg hz0]; omega
    have hn : (n : Int) ≤ 9223372036854775807 := by simp only at hle; omega
    rw [hat] at H
    clear hle hat HX
    go_enter Tryd.func55, Tryd.ntmps55
    go_wp2_with (first
      | (go_at_call 54; refine H.out.mono ?_; rintro e w1 ⟨rfl, h1, h2⟩; have HR := hid h1; have HT := hid h2; clear h1 h2)
      | (go_at_call 79; refine (H2.out _ HR.out).mono ?_; rintro e w2 ⟨a, cap, rfl, hAt, hRD, hT⟩; have hcv := conv_at w2 a _ cap hAt; have HQ := hid (And.intro hRD hT); clear hAt hRD hT))
    all_goals first | omega | (go_ret; exact ⟨rfl, HQ.out.1, HT.out.trans HQ.out.2⟩)

theorem refuse_any {v : Value} {s : M.St} {w : World} (e : Nat) (h : RD w v s) (h0 : s.e = 0) (he2 : e ≤ 100) : Calls Tryd.prog 78 #[v, .int .i64 (e : Int)] w (PR w v (.tuple #[]) ⟨e, []⟩) := by
  obtain ⟨p, rfl, hR⟩ := h.made h0
  obtain ⟨a, cap, hb, hL⟩ := hR.box
  refine (refuse_box p _ _ _ (e : Int) w hb).mono ?_
  rintro x w' ⟨rfl, hw⟩
  obtain ⟨h3, h4⟩ := hR.set (e := e) (l := []) hw (Lies.nil w p) (fun _ => rfl) (by simp) he2
  exact ⟨rfl, .inr (.inr ⟨p, rfl, h3⟩), h4⟩
theorem fixedR_bad {z : Int} {s : M.St} (h : M.canon (M.fixedR z s).1 ≠ (M.fixedR z s).1) : (M.fixedR z s).2.e = 0 := by
  unfold M.fixedR at h ⊢
  unfold M.takeR at h ⊢
  by_cases h1 : s.e ≠ 0
  · rw [if_pos h1] at h; exact absurd M.canon_zero h
  · rw [if_neg h1] at h ⊢
    by_cases h2 : s.l.length < M.clamp z
    · rw [if_pos h2] at h; exact absurd M.canon_zero h
    · rw [if_neg h2]
end Go.Proofs.YtlgbgedkedddaaaDoor
