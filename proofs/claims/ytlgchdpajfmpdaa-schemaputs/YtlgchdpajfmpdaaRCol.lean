/- The reference: columns, what is wrong with a table. -/
import Derived.Test.YtlgchdpajfmpdaaRName
namespace Go.Proofs.Ytlgchdpajfmpdaa
open Go.RowKit

set_option maxRecDepth 100000 in
set_option maxHeartbeats 1000000 in
theorem rcolumn_any (n : List UInt8) (a : Option Addr) (cap : Nat) (cs : List M.Col) (nm : List UInt8) (w : World) (hA : ColAt w a cs) (hl : cs.length ≤ 1000) : Calls Try.prog 13 #[.agg #[.string ⟨n.toArray⟩, .slice a cs.length cap], .string ⟨nm.toArray⟩] w (Tells w (.int .i64 (M.place (M.idx (fun d => decide (d.1 = nm)) cs)))) := by
  have A0 : Adds w (w.alloc (.cells #[.string ⟨n.toArray⟩, .slice a cs.length cap] 24)) := (Touch.refl _ w).alloc _
  have HA := hid (hA.adds A0)
  obtain ⟨c0, c1⟩ := two_new w (.string ⟨n.toArray⟩) (.slice a cs.length cap) 24 (Touch.refl _ _)
  have HX := hid A0
  clear hA A0 c0
  go_enter Try.func13, Try.ntmps13
  go_wp2_with fail
  go_loopw [5] (fun iv wr => ∃ i : Nat, iv = .int .i64 (i : Int) ∧ i ≤ cs.length ∧ wr = w.alloc (.cells #[.string ⟨n.toArray⟩, .slice a cs.length cap] 24) ∧ Hid (∀ d ∈ cs.take i, (fun d : M.Col => decide (d.1 = nm)) d = false)) (fun iv _ => cs.length - (intOf iv).toNat)
  case atStart => exact ⟨0, rfl, Nat.zero_le _, rfl, fun d hd => (by simp at hd)⟩
  case round =>
    obtain ⟨i, rfl, hi, rfl, HI⟩ := hrel
    by_cases hlt : i < cs.length
    · have hltz : (i : Int) < (cs.length : Int) := by omega
      obtain ⟨c, hc⟩ : ∃ c, cs[i]? = some c := ⟨cs[i], List.getElem?_eq_getElem hlt⟩
      obtain ⟨b, o, ea, d0, d1⟩ := HA.out i c hc
      subst ea
      have HC := hid hc
      clear hc d1
      by_cases he : c.1 = nm
      · have hb : (c.1 == nm) = true := by rw [beq_iff_eq]; exact he
        have HP := hid (M.idx_some (p := fun d => decide (d.1 = nm)) HC.out (decide_eq_true he) HI.out)
        clear he
        go_wp2_with fail
        go_ret
        exact ⟨by rw [HP.out]; rfl, HX.out⟩
      · have hb : (c.1 == nm) = false := by rw [beq_eq_false_iff_ne]; exact he
        have HP := hid (M.take_false (p := fun d => decide (d.1 = nm)) HC.out HI.out (decide_eq_false he))
        clear he
        go_wp2_with fail
        go_roundw
        case rel => exact ⟨i + 1, by go_num, by omega, by first | rfl | trivial, HP.out⟩
        case measure => simp [intOf]; omega
    · have hltz : ¬ (i : Int) < (cs.length : Int) := by omega
      have HN := hid (M.idx_none (p := fun d => decide (d.1 = nm)) (cs := cs) (by have := HI.out; rw [List.take_of_length_le (by omega)] at this; exact this))
      go_wp2_with fail
      go_ret
      exact ⟨by rw [HN.out]; rfl, HX.out⟩
namespace M
/-- A name that stands there already. -/
theorem idx_seen {cs : List Col} {i : Nat} {c : Col} (hd : c.1 ∈ (cs.map (·.1)).take i) : idx (fun d => decide (d.1 = c.1)) cs ≠ some i := by
  intro h
  rw [← List.map_take] at hd
  obtain ⟨d, hd1, hd2⟩ := List.mem_map.1 hd
  have key : ∀ (l : List Col) (k : Nat), idx (fun d => decide (d.1 = c.1)) l = some k → ∀ x ∈ l.take k, ¬ x.1 = c.1 := by
    intro l
    induction l with
    | nil => intro k hk; cases hk
    | cons y r ih =>
      intro k hk x hx
      rw [idx] at hk
      split at hk
      · obtain rfl : 0 = k := by simpa using hk
        simp at hx
      · rename_i hy
        cases hr : idx (fun d => decide (d.1 = c.1)) r with
        | none => rw [hr] at hk; cases hk
        | some q =>
          rw [hr] at hk
          obtain rfl : q + 1 = k := by simpa using hk
          rw [List.take_succ_cons] at hx
          rcases List.mem_cons.1 hx with rfl | hx
          · simpa using hy
          · exact ih q hr x hx
  exact key cs i h d hd1 hd2
theorem idx_new {cs : List Col} {i : Nat} {c : Col} (hc : cs[i]? = some c) (hd : c.1 ∉ (cs.map (·.1)).take i) : idx (fun d => decide (d.1 = c.1)) cs = some i := by
  refine idx_some hc (by simp) ?_
  intro d hd2
  rw [decide_eq_false_iff_not]
  intro e
  apply hd
  rw [← List.map_take]
  exact List.mem_map.2 ⟨d, hd2, e⟩
theorem place_ne {o : Option Nat} {i : Nat} (h : o ≠ some i) : place o ≠ (i : Int) := by
  cases o with
  | none => show (-1 : Int) ≠ (i : Int); omega
  | some k => show (k : Int) ≠ (i : Int); intro e; apply h; congr 1; omega
end M
theorem rname_z (s : List UInt8) (z : Bool) (hz : M.name s = z) (w : World) : Calls Try.prog 9 #[.string ⟨s.toArray⟩] w (fun e w' => e = .returned (.bool z) ∧ w' = w) := by
  subst hz
  exact rname_any s w
set_option maxRecDepth 100000 in
set_option maxHeartbeats 2000000 in
theorem rright_any (n : List UInt8) (a : Option Addr) (cap : Nat) (cs : List M.Col) (w : World) (hA : ColAt w a cs) (hl : cs.length ≤ 1000) : Calls Try.prog 11 #[.agg #[.string ⟨n.toArray⟩, .slice a cs.length cap]] w (Tells w (.int .i64 (M.right n cs : Int))) := by
  have A0 := hid (show Adds w (w.alloc (.cells #[.string ⟨n.toArray⟩, .slice a cs.length cap] 24)) from (Touch.refl _ w).alloc _)
  have HA := hid (hA.adds A0.out)
  have HB := hid (fun w' => two_new w (.string ⟨n.toArray⟩) (.slice a cs.length cap) 24 (w' := w'))
  obtain ⟨c0, c1⟩ := HB.out _ (Touch.refl _ _)
  obtain ⟨z, hz⟩ : ∃ z, M.name n = z := ⟨_, rfl⟩
  have HN := hid (rname_z n z hz)
  clear hA
  cases z with
  | false =>
    have HF := hid (show M.right n cs = 2 by unfold M.right; rw [if_neg (by rw [hz]; simp)])
    clear hz
    go_enter Try.func11, Try.ntmps11
    go_wp2_with (first | (go_at_call 9; refine (HN.out _).mono ?_; rintro e w1 ⟨rfl, hw⟩; obtain rfl := hw.symm))
    go_ret
    exact ⟨by rw [HF.out]; rfl, A0.out⟩
  | true =>
    by_cases h0 : cs.length = 0
    · have HF := hid (show M.right n cs = 2 by unfold M.right; rw [if_neg (fun h => h.2.1 h0)])
      have z0 : ((cs.length : Int) == 0) = true := by rw [beq_iff_eq]; omega
      clear hz h0
      go_enter Try.func11, Try.ntmps11
      go_wp2_with (first | (go_at_call 9; refine (HN.out _).mono ?_; rintro e w1 ⟨rfl, hw⟩; obtain rfl := hw.symm))
      go_ret
      exact ⟨by rw [HF.out]; rfl, A0.out⟩
    have z0 : ((cs.length : Int) == 0) = false := by rw [beq_eq_false_iff_ne]; omega
    by_cases h8 : 8 < cs.length
    · have HF := hid (show M.right n cs = 2 by unfold M.right; rw [if_neg (fun h => absurd h.2.2.1 (by omega))])
      have z8 : (8 : Int) < (cs.length : Int) := by omega
      clear hz h0 h8
      go_enter Try.func11, Try.ntmps11
      go_wp2_with (first | (go_at_call 9; refine (HN.out _).mono ?_; rintro e w1 ⟨rfl, hw⟩; obtain rfl := hw.symm))
      go_ret
      exact ⟨by rw [HF.out]; rfl, A0.out⟩
    have z8 : ¬ (8 : Int) < (cs.length : Int) := by omega
    have HQ := hid (And.intro hz (And.intro h0 (show cs.length ≤ 8 by omega)))
    clear hz h0 h8
    go_enter Try.func11, Try.ntmps11
    go_wp2_with (first | (go_at_call 9; refine (HN.out _).mono ?_; rintro e w1 ⟨rfl, hw⟩; obtain rfl := hw.symm))
    go_loopw [3] (fun iv wr => ∃ i : Nat, iv = .int .i64 (i : Int) ∧ i ≤ cs.length ∧ wr = w.alloc (.cells #[.string ⟨n.toArray⟩, .slice a cs.length cap] 24) ∧ Hid (∀ d ∈ cs.take i, M.colBad d = false)) (fun iv _ => cs.length - (intOf iv).toNat)
    case atStart => exact ⟨0, rfl, Nat.zero_le _, rfl, fun d hd => (by simp at hd)⟩
    case round =>
      obtain ⟨i, rfl, hi, rfl, HI⟩ := hrel
      by_cases hlt : i < cs.length
      · have hltz : (i : Int) < (cs.length : Int) := by omega
        obtain ⟨c, hc⟩ : ∃ c, cs[i]? = some c := ⟨cs[i], List.getElem?_eq_getElem hlt⟩
        obtain ⟨b, o, ea, d0, d1⟩ := HA.out i c hc
        subst ea
        obtain ⟨s, kd⟩ := c
        simp only at d0 d1
        obtain ⟨y, hy⟩ : ∃ y, M.name s = y := ⟨_, rfl⟩
        have HY := hid (rname_z s y hy)
        have HC := hid hc
        have HBD := hid (show M.colBad (s, kd) = true → M.right n cs = 2 from fun h => by
          unfold M.right
          rw [if_neg (fun q => by have := List.any_eq_false.1 q.2.2.2 _ (List.mem_of_getElem? HC.out); rw [h] at this; exact absurd rfl this)])
        clear hc
        cases y with
        | false =>
          have HF := hid (HBD.out (by simp [M.colBad, hy]))
          clear hy
          go_wp2_with (first | (go_at_call 9; refine (HY.out _).mono ?_; rintro e w1 ⟨rfl, hw⟩; obtain rfl := hw.symm))
          go_ret
          exact ⟨by rw [HF.out]; rfl, A0.out⟩
        | true =>
          by_cases k1 : kd < 1
          · have HF := hid (HBD.out (by simp [M.colBad, k1]))
            clear hy
            go_wp2_with (first | (go_at_call 9; refine (HY.out _).mono ?_; rintro e w1 ⟨rfl, hw⟩; obtain rfl := hw.symm))
            go_ret
            exact ⟨by rw [HF.out]; rfl, A0.out⟩
          · by_cases k4 : 4 < kd
            · have HF := hid (HBD.out (by simp [M.colBad, k4]))
              clear hy
              go_wp2_with (first | (go_at_call 9; refine (HY.out _).mono ?_; rintro e w1 ⟨rfl, hw⟩; obtain rfl := hw.symm))
              go_ret
              exact ⟨by rw [HF.out]; rfl, A0.out⟩
            · have HF := hid (M.take_false (p := M.colBad) HC.out HI.out (by simp [M.colBad, hy]; omega))
              clear hy
              go_wp2_with (first | (go_at_call 9; refine (HY.out _).mono ?_; rintro e w1 ⟨rfl, hw⟩; obtain rfl := hw.symm))
              go_roundw
              case rel => exact ⟨i + 1, by go_num, by omega, by first | rfl | trivial, HF.out⟩
              case measure => simp [intOf]; omega
      · have hltz : ¬ (i : Int) < (cs.length : Int) := by omega
        have hany : cs.any M.colBad = false := by
          rw [List.any_eq_false]
          have h := HI.out
          rw [List.take_of_length_le (by omega)] at h
          intro c hc
          rw [Bool.not_eq_true]
          exact h c hc
        have HR := hid (show M.right n cs = if (cs.map (·.1)).Nodup then 0 else 41 by unfold M.right; rw [if_pos ⟨HQ.out.1, HQ.out.2.1, HQ.out.2.2, hany⟩])
        clear hany
        clear HI hltz
        go_wp2_with fail
        go_loopw [4] (fun iv wz => ∃ k : Nat, iv = .int .i64 (k : Int) ∧ k ≤ cs.length ∧ Hid (Adds (w.alloc (.cells #[.string ⟨n.toArray⟩, .slice a cs.length cap] 24)) wz ∧ ((cs.map (·.1)).take k).Nodup)) (fun iv _ => cs.length - (intOf iv).toNat)
        case atStart => exact ⟨0, rfl, Nat.zero_le _, Touch.refl _ _, by simp⟩
        case round =>
          obtain ⟨k, rfl, hk, HI⟩ := hrel
          clear c0 c1
          obtain ⟨c0, c1⟩ := HB.out wr HI.out.1
          by_cases hlk : k < cs.length
          · have hlkz : (k : Int) < (cs.length : Int) := by omega
            obtain ⟨c, hc⟩ : ∃ c, cs[k]? = some c := ⟨cs[k], List.getElem?_eq_getElem hlk⟩
            obtain ⟨b, o, ea, _, _⟩ := HA.out k c hc
            have HD := hid (fun w' (h : Adds wr w') => show w'.cell? ⟨b, o + k * 2, none⟩ = some (.string ⟨c.1.toArray⟩) by
              obtain ⟨b', o', ea', d0, _⟩ := ((HA.out.adds HI.out.1).adds h) k c hc
              rw [ea] at ea'
              obtain ⟨rfl, rfl⟩ : b = b' ∧ o = o' := by simpa using ea'
              exact d0)
            subst ea
            have hnm : (cs.map (·.1))[k]? = some c.1 := by rw [List.getElem?_map, hc]; rfl
            obtain ⟨pl, hpl⟩ : ∃ z, M.place (M.idx (fun d => decide (d.1 = c.1)) cs) = z := ⟨_, rfl⟩
            have HCL := hid (fun w' (h : Adds (w.alloc (.cells #[.string ⟨n.toArray⟩, .slice (some ⟨b, o, none⟩) cs.length cap] 24)) w') => show Calls Try.prog 13 #[.agg #[.string ⟨n.toArray⟩, .slice (some ⟨b, o, none⟩) cs.length cap], .string ⟨c.1.toArray⟩] w' (Tells w' (.int .i64 pl)) by rw [← hpl]; exact rcolumn_any n (some ⟨b, o, none⟩) cap cs c.1 w' (HA.out.adds h) hl)
            have HPL := hid (show (c.1 ∈ (cs.map (·.1)).take k → ¬ pl = (k : Int) ∧ ¬ (cs.map (·.1)).Nodup) ∧ (c.1 ∉ (cs.map (·.1)).take k → pl = (k : Int) ∧ ((cs.map (·.1)).take (k + 1)).Nodup) from
              ⟨fun h => ⟨by rw [← hpl]; exact M.place_ne (M.idx_seen h), M.not_nodup hnm h⟩, fun h => ⟨by rw [← hpl, M.idx_new hc h]; rfl, M.nodup_take hnm HI.out.2 h⟩⟩)
            clear hc hnm hpl
            by_cases hm : c.1 ∈ (cs.map (·.1)).take k
            · have hq := hid (HPL.out.1 hm).1
              have HF := hid (show M.right n cs = 41 by rw [HR.out, if_neg (HPL.out.1 hm).2])
              clear hm
              go_upto_region 11 with fail
              refine H_begin (S := fun w' => Adds wr w') (by kernel_rfl) ?_
              have hS : Adds wr wr.drew := (Touch.refl _ wr).drew
              refine H_put (i := 0) 61 (v := .agg #[.string ⟨n.toArray⟩, .slice (some ⟨b, o, none⟩) cs.length cap]) rfl rfl (by kernel_rfl) (by kernel_rfl) (by kernel_rfl) (fun _ _ _ h => h) (Or.inl ⟨by rfl, fun w' hw' => ?_⟩) hS ?_
              · obtain ⟨q0, q1⟩ := HB.out w' (HI.out.1.trans hw'); go_simp
              simp only [Act.put, List.setIfInBounds_toArray, List.set_cons_zero, List.set_cons_succ]
              refine H_put (i := 1) 62 (v := .pointer (some ⟨w.heap.size, 1, none⟩)) rfl rfl (by kernel_rfl) (by kernel_rfl) (by kernel_rfl) (fun _ _ _ h => h) (Or.inl ⟨by rfl, fun w' hw' => ?_⟩) hS ?_
              · go_simp
              simp only [Act.put, List.setIfInBounds_toArray, List.set_cons_zero, List.set_cons_succ]
              refine H_put (i := 2) 63 (v := .slice (some ⟨b, o, none⟩) cs.length cap) rfl rfl (by kernel_rfl) (by kernel_rfl) (by kernel_rfl) (fun _ _ _ h => h) (Or.inl ⟨by rfl, fun w' hw' => ?_⟩) hS ?_
              · obtain ⟨q0, q1⟩ := HB.out w' (HI.out.1.trans hw'); go_simp
              simp only [Act.put, List.setIfInBounds_toArray, List.set_cons_zero, List.set_cons_succ]
              refine H_put (i := 3) 64 (v := .int .i64 (k : Int)) rfl rfl (by kernel_rfl) (by kernel_rfl) (by kernel_rfl) (fun _ _ _ h => h) (Or.inl ⟨by rfl, fun w' hw' => ?_⟩) hS ?_
              · go_simp
              simp only [Act.put, List.setIfInBounds_toArray, List.set_cons_zero, List.set_cons_succ]
              refine H_put (i := 4) 65 (v := .pointer (some ⟨b, o + k * 2, none⟩)) rfl rfl (by kernel_rfl) (by kernel_rfl) (by kernel_rfl) (fun _ _ _ h => h) (Or.inl ⟨by rfl, fun w' hw' => ?_⟩) hS ?_
              · go_simp
              simp only [Act.put, List.setIfInBounds_toArray, List.set_cons_zero, List.set_cons_succ]
              refine H_put (i := 5) 66 (v := .pointer (some ⟨b, o + k * 2, none⟩)) rfl rfl (by kernel_rfl) (by kernel_rfl) (by kernel_rfl) (fun _ _ _ h => h) (Or.inl ⟨by rfl, fun w' hw' => ?_⟩) hS ?_
              · go_simp
              simp only [Act.put, List.setIfInBounds_toArray, List.set_cons_zero, List.set_cons_succ]
              refine H_put (i := 6) 67 (v := .string ⟨c.1.toArray⟩) rfl rfl (by kernel_rfl) (by kernel_rfl) (by kernel_rfl) (fun _ _ _ h => h) (Or.inl ⟨by rfl, fun w' hw' => ?_⟩) hS ?_
              · have q2 := HD.out w' hw'; go_simp
              simp only [Act.put, List.setIfInBounds_toArray, List.set_cons_zero, List.set_cons_succ]
              refine H_put (i := 8) 69 (v := .int .i64 (k : Int)) rfl rfl (by kernel_rfl) (by kernel_rfl) (by kernel_rfl) (fun _ _ _ h => h) (Or.inl ⟨by rfl, fun w' hw' => ?_⟩) hS ?_
              · go_simp
              simp only [Act.put, List.setIfInBounds_toArray, List.set_cons_zero, List.set_cons_succ]
              refine H_call (i := 7) 68 13 #[.agg #[.string ⟨n.toArray⟩, .slice (some ⟨b, o, none⟩) cs.length cap], .string ⟨c.1.toArray⟩] (R := Tells wr.drew (.int .i64 pl)) (by kernel_rfl) rfl rfl (by rfl) (by go_simp) ?_ ?_
              · exact HCL.out _ (HI.out.1.trans hS)
              rintro e wa ⟨rfl, hwa⟩
              have Awa := hid (Touch.trans hS hwa)
              refine ⟨_, fun w' => Adds wa w', rfl, Touch.refl _ _, fun w' h => Awa.out.trans h, ?_⟩
              clear hS
              have hS : Adds wa wa := Touch.refl _ _
              simp only [Act.put, List.setIfInBounds_toArray, List.set_cons_zero, List.set_cons_succ]
              refine H_put (i := 9) 70 (v := .bool true) rfl rfl (by kernel_rfl) (by kernel_rfl) (by kernel_rfl) (fun _ _ _ h => h) (Or.inl ⟨by rfl, fun w' hw' => ?_⟩) hS ?_
              · have hq2 := hq.out; go_simp
              simp only [Act.put, List.setIfInBounds_toArray, List.set_cons_zero, List.set_cons_succ]
              refine wpAnyH_done (by kernel_rfl) ?_ _
              clear hS
              go_wp2_with fail
              go_ret
              exact ⟨by rw [HF.out]; rfl, A0.out.trans (HI.out.1.trans Awa.out)⟩
            · have hq := hid (HPL.out.2 hm).1
              have HF := hid (HPL.out.2 hm).2
              clear hm
              go_upto_region 11 with fail
              refine H_begin (S := fun w' => Adds wr w') (by kernel_rfl) ?_
              have hS : Adds wr wr.drew := (Touch.refl _ wr).drew
              refine H_put (i := 0) 61 (v := .agg #[.string ⟨n.toArray⟩, .slice (some ⟨b, o, none⟩) cs.length cap]) rfl rfl (by kernel_rfl) (by kernel_rfl) (by kernel_rfl) (fun _ _ _ h => h) (Or.inl ⟨by rfl, fun w' hw' => ?_⟩) hS ?_
              · obtain ⟨q0, q1⟩ := HB.out w' (HI.out.1.trans hw'); go_simp
              simp only [Act.put, List.setIfInBounds_toArray, List.set_cons_zero, List.set_cons_succ]
              refine H_put (i := 1) 62 (v := .pointer (some ⟨w.heap.size, 1, none⟩)) rfl rfl (by kernel_rfl) (by kernel_rfl) (by kernel_rfl) (fun _ _ _ h => h) (Or.inl ⟨by rfl, fun w' hw' => ?_⟩) hS ?_
              · go_simp
              simp only [Act.put, List.setIfInBounds_toArray, List.set_cons_zero, List.set_cons_succ]
              refine H_put (i := 2) 63 (v := .slice (some ⟨b, o, none⟩) cs.length cap) rfl rfl (by kernel_rfl) (by kernel_rfl) (by kernel_rfl) (fun _ _ _ h => h) (Or.inl ⟨by rfl, fun w' hw' => ?_⟩) hS ?_
              · obtain ⟨q0, q1⟩ := HB.out w' (HI.out.1.trans hw'); go_simp
              simp only [Act.put, List.setIfInBounds_toArray, List.set_cons_zero, List.set_cons_succ]
              refine H_put (i := 3) 64 (v := .int .i64 (k : Int)) rfl rfl (by kernel_rfl) (by kernel_rfl) (by kernel_rfl) (fun _ _ _ h => h) (Or.inl ⟨by rfl, fun w' hw' => ?_⟩) hS ?_
              · go_simp
              simp only [Act.put, List.setIfInBounds_toArray, List.set_cons_zero, List.set_cons_succ]
              refine H_put (i := 4) 65 (v := .pointer (some ⟨b, o + k * 2, none⟩)) rfl rfl (by kernel_rfl) (by kernel_rfl) (by kernel_rfl) (fun _ _ _ h => h) (Or.inl ⟨by rfl, fun w' hw' => ?_⟩) hS ?_
              · go_simp
              simp only [Act.put, List.setIfInBounds_toArray, List.set_cons_zero, List.set_cons_succ]
              refine H_put (i := 5) 66 (v := .pointer (some ⟨b, o + k * 2, none⟩)) rfl rfl (by kernel_rfl) (by kernel_rfl) (by kernel_rfl) (fun _ _ _ h => h) (Or.inl ⟨by rfl, fun w' hw' => ?_⟩) hS ?_
              · go_simp
              simp only [Act.put, List.setIfInBounds_toArray, List.set_cons_zero, List.set_cons_succ]
              refine H_put (i := 6) 67 (v := .string ⟨c.1.toArray⟩) rfl rfl (by kernel_rfl) (by kernel_rfl) (by kernel_rfl) (fun _ _ _ h => h) (Or.inl ⟨by rfl, fun w' hw' => ?_⟩) hS ?_
              · have q2 := HD.out w' hw'; go_simp
              simp only [Act.put, List.setIfInBounds_toArray, List.set_cons_zero, List.set_cons_succ]
              refine H_put (i := 8) 69 (v := .int .i64 (k : Int)) rfl rfl (by kernel_rfl) (by kernel_rfl) (by kernel_rfl) (fun _ _ _ h => h) (Or.inl ⟨by rfl, fun w' hw' => ?_⟩) hS ?_
              · go_simp
              simp only [Act.put, List.setIfInBounds_toArray, List.set_cons_zero, List.set_cons_succ]
              refine H_call (i := 7) 68 13 #[.agg #[.string ⟨n.toArray⟩, .slice (some ⟨b, o, none⟩) cs.length cap], .string ⟨c.1.toArray⟩] (R := Tells wr.drew (.int .i64 pl)) (by kernel_rfl) rfl rfl (by rfl) (by go_simp) ?_ ?_
              · exact HCL.out _ (HI.out.1.trans hS)
              rintro e wa ⟨rfl, hwa⟩
              have Awa := hid (Touch.trans hS hwa)
              refine ⟨_, fun w' => Adds wa w', rfl, Touch.refl _ _, fun w' h => Awa.out.trans h, ?_⟩
              clear hS
              have hS : Adds wa wa := Touch.refl _ _
              simp only [Act.put, List.setIfInBounds_toArray, List.set_cons_zero, List.set_cons_succ]
              refine H_put (i := 9) 70 (v := .bool false) rfl rfl (by kernel_rfl) (by kernel_rfl) (by kernel_rfl) (fun _ _ _ h => h) (Or.inl ⟨by rfl, fun w' hw' => ?_⟩) hS ?_
              · have hq2 := hq.out; go_simp
              simp only [Act.put, List.setIfInBounds_toArray, List.set_cons_zero, List.set_cons_succ]
              refine wpAnyH_done (by kernel_rfl) ?_ _
              clear hS
              go_wp2_with fail
              go_roundw
              case rel => exact ⟨k + 1, by go_num, by omega, HI.out.1.trans Awa.out, HF.out⟩
              case measure => simp [intOf]; omega
          · have hlkz : ¬ (k : Int) < (cs.length : Int) := by omega
            have HF := hid (show M.right n cs = 0 by
              rw [HR.out, if_pos]
              have := HI.out.2
              rw [List.take_of_length_le (by simp; omega)] at this
              exact this)
            go_wp2_with fail
            go_ret
            exact ⟨by rw [HF.out]; rfl, A0.out.trans HI.out.1⟩
end Go.Proofs.Ytlgchdpajfmpdaa
