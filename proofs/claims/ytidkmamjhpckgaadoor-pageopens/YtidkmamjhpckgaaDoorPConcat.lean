/- Lists of slices, one behind the other: slices.Concat of lists. -/
import Derived.Test.YtidkmamjhpckgaaDoorPLeft
namespace Go.Proofs.YtidkmamjhpckgaaDoor
open Go.RowKit

set_option maxRecDepth 100000 in
theorem append_bm {w : World} {ops : Array Oper} {rest : List Oper} {o : Oper} {act : Act} {Q : Exit → Act → World → Prop} {Q' : Nat → Prop} (hgd : o.guard = none) (s x : Operand)
    (ho : o.op = .call { callee := .builtin .append, args := #[s, x], argTypes := #[32, 32] }) (base : Nat) (v : Value) (n : Nat) (xs : List Value) (hs : act.eval s = v) (hown : w.ownsRow base 22 1 v n xs)
    (a : Option Addr) (m cap : Nat) (news : List Value) (hm : news.length = m) (hx : act.eval x = .slice a m cap) (hcap : a = none → cap = 0) (hA : CQ w Q' a news) (h1 : ∀ u ∈ news, u.oneCell' = true) (hlen : n + m ≤ 10000000) (hbase : base ≤ w.heap.size)
    (h : ∀ v' w', w'.ownsRow base 22 1 v' (n + m) (xs ++ news) → w.grownBy w' v.ownBlock → wpList Tryd.prog ops Q rest (act.put o.dst v') w') : wpList Tryd.prog ops Q (o :: rest) act w := by
  obtain ⟨i0, hi, hz0, hz1, hz2⟩ := infoB
  cases a with
  | none =>
    obtain rfl := hcap rfl
    obtain rfl : news = [] := by
      cases news with
      | nil => rfl
      | cons u l => obtain ⟨b, o', e, _⟩ := hA 0 u rfl; cases e
    obtain rfl : m = 0 := by rw [← hm]; rfl
    exact wpList_append_own_none hgd s x 32 ho base 22 i0 1 Tryd.underlying32 hi v n xs hs hown hx (h v w (by simpa using hown) ⟨rfl, rfl, rfl, Nat.le_refl _, fun _ _ _ => rfl⟩)
  | some ad =>
    refine wpList_append_own_at _ hgd s x 32 ho base 22 i0 (.slice none 0 0) 1 24 Tryd.underlying32 hi hz0 hz1 hz2 rfl (by decide) v n xs hs hown ad m cap news hx (by omega) ?_ h1 (by unfold maxLen; omega) (by omega) hbase (fun v' w' g1 g2 _ _ => h v' w' g1 g2)
    intro j y hj
    obtain ⟨b, o', e, _, hc⟩ := hA j y hj
    obtain rfl : ad = ⟨b, o', none⟩ := by simpa using e
    rw [Addr.add_mid]; exact hc
set_option maxRecDepth 100000 in
theorem one_PV (l : List Part) : ∀ u ∈ l.map PV, u.oneCell' = true := by
  intro u hu
  obtain ⟨x, _, rfl⟩ := List.mem_map.1 hu
  rfl
/-- A new list of slices. -/
def POwnB (w : World) (hs : List Part) (e : Ending) (w' : World) : Prop := ∃ v, e = .returned v ∧ w'.ownsRow w.heap.size 22 1 v hs.length (hs.map PV) ∧ Adds w w'
set_option maxRecDepth 100000 in
theorem zeros_sizeB (n : Nat) : (Builtin.zeroCells #[Value.slice none 0 0] n).size = n := by simp [Builtin.zeroCells]
set_option maxRecDepth 100000 in
set_option maxHeartbeats 400000 in
theorem growB_none (w : World) : Calls Tryd.prog 54 #[.slice none 0 0, .int .i64 0] w fun e w' => e = .returned (.slice none 0 0) ∧ w' = w := by
  go_enter Tryd.func54, Tryd.ntmps54
  go_wp2
  go_ret
  exact ⟨rfl, rfl⟩
set_option maxRecDepth 100000 in
set_option maxHeartbeats 400000 in
theorem growB_some (n : Nat) (hn : 0 < n) (hn2 : n ≤ 10000000) (w : World) : Calls Tryd.prog 54 #[.slice none 0 0, .int .i64 (n : Int)] w (POwnB w []) := by
  obtain ⟨i0, hi, hz0, hz1, hz2⟩ := infoB
  have hr := hid (fun ty => Lib.run_append_nil_zeros (P := Tryd.prog) w 32 3 ty 22 i0 (.slice none 0 0) .i64 .i64 Tryd.underlying32 Tryd.underlying3 hi hz0 n hn (by omega) (by omega) (by rw [hz2]; omega))
  clear hi hz0 hz1 hz2
  have hn' : (0 : Int) < (n : Int) := by omega
  go_enter Tryd.func54, Tryd.ntmps54
  go_wp2_with (first | (at_builtin; refine Lib.wpList_append_run _ rfl _ _ _ _ rfl _ _ rfl rfl _ _ (hr.out _) ?_))
  go_ret
  refine ⟨.slice (some ⟨w.heap.size, 0, none⟩) 0 (grownCap w n 0 22), rfl, ?_, (Touch.refl _ w).drew.alloc _⟩
  refine World.ownsRow_made (base := w.heap.size) w.drew _ _ (Nat.le_refl _) (grownCap_le_maxLen w n 0 22 (by unfold maxLen; omega)) ?_
  rw [Array.size_append, zeros_sizeB, zeros_sizeB]
  have := grownCap_ge w n 0 22
  omega
set_option maxRecDepth 100000 in
theorem growB_any (n : Nat) (hn : n ≤ 10000000) (w : World) : Calls Tryd.prog 54 #[.slice none 0 0, .int .i64 (n : Int)] w (POwnB w []) := by
  rcases Nat.eq_zero_or_pos n with rfl | h0
  · refine (growB_none w).mono ?_
    rintro e w' ⟨rfl, rfl⟩
    exact ⟨_, rfl, World.ownsRow_nil _ _ _ _, Touch.refl _ _⟩
  · exact growB_some n h0 hn w
def flatB (L : List Pl) : List Part := (L.map (·.l)).flatten
set_option maxRecDepth 100000 in
theorem flatB_next {L : List Pl} {k : Nat} {x : Pl} (h : L[k]? = some x) : flatB (L.take (k + 1)) = flatB (L.take k) ++ x.l := by
  unfold flatB
  rw [List.take_add_one, h]; simp
set_option maxRecDepth 100000 in
theorem flatB_len (L : List Pl) (k : Nat) : (flatB (L.take k)).length ≤ (flatB L).length := by
  have : flatB L = flatB (L.take k) ++ flatB (L.drop k) := by
    unfold flatB
    rw [← List.flatten_append, ← List.map_append, List.take_append_drop]
  rw [this, List.length_append]; omega
/-- Lists that lie in a row. -/
def GParts (w : World) (g : Nat) (L : List Pl) : Prop := ∀ j x, L[j]? = some x → w.cell? ⟨g, j, none⟩ = some (.slice x.a x.l.length x.cap) ∧ GQ w (fun _ => True) x
set_option maxRecDepth 100000 in
theorem GParts.adds {w w' : World} {g : Nat} {L : List Pl} (h : GParts w g L) (hA : Adds w w') : GParts w' g L := by
  intro j x hj
  obtain ⟨h1, h2⟩ := h j x hj
  exact ⟨below_adds hA h1, h2.adds hA⟩
set_option maxRecDepth 100000 in
set_option maxHeartbeats 1000000 in
theorem concatB_any (g : Nat) (L : List Pl) (w : World) (hL : L.length ≤ 1000) (hf : (flatB L).length ≤ 10000000) (hP : GParts w g L) : Calls Tryd.prog 48 #[.slice (some ⟨g, 0, none⟩) L.length L.length] w (POwnB w (flatB L)) := by
  have HP := hid hP
  have HG := hid (growB_any (flatB L).length hf w)
  clear hP
  go_enter Tryd.func48, Tryd.ntmps48
  go_wp2
  go_loopw [3, 11] (fun x i wr => ∃ k : Nat, k ≤ L.length ∧ x = .int .i64 ((flatB (L.take k)).length : Int) ∧ i = .int .i64 (k : Int) ∧ wr = w) (fun _ i _ => L.length - (intOf i).toNat)
  case atStart => exact ⟨0, by omega, rfl, rfl, rfl⟩
  case round =>
    obtain ⟨k, hk, rfl, rfl, hw⟩ := hrel
    obtain rfl := hw.symm
    by_cases hlt : k < L.length
    · obtain ⟨x, hx⟩ : ∃ x, L[k]? = some x := ⟨L[k], List.getElem?_eq_getElem hlt⟩
      obtain ⟨hcell, _⟩ := HP.out k x hx
      have hn := flatB_len L (k + 1)
      have HN := hid (show (flatB (L.take (k + 1))).length = (flatB (L.take k)).length + x.l.length by rw [flatB_next hx, List.length_append])
      rw [HN.out] at hn
      clear hx
      generalize (flatB (L.take k)).length = y at *
      go_wp2
      go_roundw
      case rel => exact ⟨k + 1, by omega, by rw [HN.out]; simp, by go_num, by first | rfl | trivial⟩
      case measure => simp [intOf]; omega
    · obtain rfl : k = L.length := by omega
      rw [List.take_length]
      go_wp2_with (first | (go_at_call 54; refine HG.out.mono ?_; rintro e w1 ⟨v0, rfl, h1, h2⟩; have HQ := hid (And.intro h1 h2); clear h1 h2))
      go_loopw [6, 27] (fun v i wz => ∃ k : Nat, k ≤ L.length ∧ i = .int .i64 (k : Int) ∧ Hid (wz.ownsRow w.heap.size 22 1 v (flatB (L.take k)).length ((flatB (L.take k)).map PV) ∧ Adds w wz)) (fun _ i _ => L.length - (intOf i).toNat)
      case atStart => exact ⟨0, by omega, rfl, HQ.out.1, HQ.out.2⟩
      case round =>
        obtain ⟨k, hk, rfl, HI⟩ := hrel
        by_cases hlt : k < L.length
        · obtain ⟨x, hx⟩ : ∃ x, L[k]? = some x := ⟨L[k], List.getElem?_eq_getElem hlt⟩
          obtain ⟨hcell, hG⟩ := (HP.out.adds HI.out.2) k x hx
          have HN := hid (flatB_next hx)
          have hn := flatB_len L (k + 1)
          rw [HN.out, List.length_append] at hn
          have HA := hid (And.intro hG hn)
          clear hx hG hn
          go_wp2_with (first
            | (at_builtin; refine append_bm rfl _ _ rfl w.heap.size _ (flatB (L.take k)).length ((flatB (L.take k)).map PV) rfl HI.out.1 x.a x.l.length x.cap (x.l.map PV) (by rw [List.length_map]) rfl HA.out.1.non HA.out.1.at_ (one_PV _) (by have := HA.out.2; omega) HI.out.2.size ?_; intro v1 w1 hown1 hgrow1; have HQ1 := hid (And.intro hown1 hgrow1); clear hown1 hgrow1))
          go_roundw
          case rel =>
            refine ⟨k + 1, by omega, by go_num, ?_, ?_⟩
            · have h := HQ1.out.1
              rw [HN.out, List.length_append, List.map_append]
              exact h
            · exact Touch.grown HI.out.2 HQ1.out.2 (fun j hj hlt => by have := (HI.out.1.lt j hj).1; omega)
          case measure => simp [intOf]; omega
        · obtain rfl : k = L.length := by omega
          go_wp2
          go_ret
          have h := HI.out.1
          rw [List.take_length] at h
          exact ⟨_, rfl, h, HI.out.2⟩
end Go.Proofs.YtidkmamjhpckgaaDoor
