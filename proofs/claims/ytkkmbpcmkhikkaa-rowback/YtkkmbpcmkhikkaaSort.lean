/- Sort. -/
import Derived.Test.YtkkmbpcmkhikkaaSorts
namespace Go.Proofs.Ytkkmbpcmkhikkaa
open Go.RowKit

/-- A row in new memory. -/
def PNewRow (w : World) (r : List M.V) (e : Ending) (w' : World) : Prop := ∃ a cap, e = .returned (.slice a r.length cap) ∧ Hid (IsRow w' ⟨a, cap, r⟩ ∧ (∀ b o, a = some ⟨b, o, none⟩ → w.heap.size ≤ b) ∧ Adds w w')
theorem concat_row (p : Nat) (x : Hd) (w : World) (hc : w.cell? ⟨p, 0, none⟩ = some (.slice x.a x.r.length x.cap)) (hx : IsRow w x) : Calls Try.prog 22 #[.slice (some ⟨p, 0, none⟩) 1 1] w (PNewRow w x.r) := by
  refine (concat_v p x.a x.r x.cap w hx.len hc hx.at_.cells hx.non).mono ?_
  rintro e w' ⟨v, rfl, h⟩
  rcases h.out.1.2 with ⟨rfl, hn⟩ | ⟨g, cap', cur, rfl, hg, _⟩
  · refine ⟨none, 0, by rw [hn], ⟨?_, hx.len, fun _ => rfl⟩, fun b o e => (by cases e), h.out.2⟩
    rw [show x.r = [] from List.eq_nil_of_length_eq_zero hn]
    exact VAt.nil _ _
  · refine ⟨some ⟨g, 0, none⟩, cap', rfl, ⟨(CAt.own h.out.1).vals, hx.len, fun e => (by cases e)⟩, fun b o e => ?_, h.out.2⟩
    obtain ⟨rfl, rfl⟩ : g = b ∧ 0 = o := by simpa using e
    exact hg
theorem Dat.set {w : World} {g i : Nat} {l : List Hd} {x : Hd} (h : Dat w g l) (hi : i < l.length) (hx : IsRow w x) (hg : x.r ≠ [] → ∀ b o, x.a = some ⟨b, o, none⟩ → b ≠ g) : Dat (w.setCell ⟨g, i, none⟩ (.slice x.a x.r.length x.cap)) g (l.set i x) := by
  have hT : Only g w (w.setCell ⟨g, i, none⟩ (.slice x.a x.r.length x.cap)) := (Touch.refl (fun k => k = g) w).setCell (p := ⟨g, i, none⟩) (fun _ => rfl) _
  refine ⟨fun k hk => ?_, fun k hk => ?_, fun z hz => ?_, fun z hz => ?_⟩
  · rw [List.length_set] at hk
    rw [M.get_set l i k x hi]
    by_cases e : k = i
    · subst e; rw [if_pos rfl]; exact cell_same _ (h.cell k hi)
    · rw [if_neg e, cell_other _ e]; exact h.cell k hk
  · rw [List.length_set] at hk
    simp only [World.frozen?_setCell]
    exact h.fro k hk
  · rcases List.mem_or_eq_of_mem_set hz with hz | rfl
    · exact (h.rows z hz).only hT (h.off z hz)
    · exact hx.only hT hg
  · rcases List.mem_or_eq_of_mem_set hz with hz | rfl
    · exact h.off z hz
    · exact hg
/-- What Sort leaves. -/
def PSorted (w : World) (o : List (Int × Bool)) (l : List Hd) (e : Ending) (w' : World) : Prop :=
  ∃ a cap, e = .returned (.slice a l.length cap) ∧ Hid (∃ m n : List Hd, M.Mrg (ltc (M.bycmp o)) 0 l.length l m ∧ n.length = m.length ∧ (∀ i : Nat, i < m.length → n[i]!.r = m[i]!.r) ∧ New w a cap w' n ∧ Adds w w')
set_option maxRecDepth 100000 in
set_option maxHeartbeats 2000000 in
theorem rowSort_any (ka : Option Addr) (kcap : Nat) (o : List (Int × Bool)) (a : Option Addr) (cap : Nat) (l : List Hd) (w : World) (hk : KAt w ka o) (hol : o.length ≤ 1000000) (hA : HAt w a l) (hcap : a = none → cap = 0) (hl : l.length ≤ 1000000) (hr : ∀ x ∈ l, IsRow w x) :
    Calls Try.prog 8 #[.slice a l.length cap, .slice ka o.length kcap] w (PSorted w o l) := by
  have hAl : Adds w (w.alloc (.cells #[.slice ka o.length kcap] 23)) := (Touch.refl _ w).alloc _
  have H := hid (sorted_any 38 _ (M.bycmp o) (ord_of (M.cm_bycmp o)) a cap l (w.alloc (.cells #[.slice ka o.length kcap] 23)) (hA.adds hAl) hcap hl (fun x hx => (hr x hx).adds hAl) (cmps_by w.heap.size ka kcap o _ (by rw [cellOf (heap_alloc_new w _) 0]; rfl) (hk.adds hAl) hol))
  clear hk hA hr hAl hcap
  go_enter Try.func8, Try.ntmps8
  go_upto_region 2 with (first | (go_at_call 21; refine (by_fun _ _ rfl _ _ _ rfl).mono ?_; rintro e w1 ⟨rfl, hw⟩; subst hw) | (go_at_call 20; refine H.out.mono ?_; rintro e w2 ⟨a2, cap2, rfl, HR⟩))
  obtain ⟨m, m1, m2, m3⟩ := HR.out
  have A2 := hid (show Adds w w2 from ((Touch.refl _ w).alloc _).trans m3)
  have M1 := hid m1
  have hml : m.length = l.length := m1.mv.len
  rcases m2 with ⟨rfl, rfl, rfl⟩ | ⟨g, rfl, hg, hglt, hcp, hD⟩
  · have hl0 : l.length = 0 := hml.symm
    clear m1 m3 HR
    rw [hl0]
    go_wp2_with fail
    go_loopw [14] (fun iv wr => iv = .int .i64 0 ∧ wr = w2) (fun _ _ => 0)
    case atStart => exact ⟨rfl, by first | rfl | trivial⟩
    case round =>
      obtain ⟨rfl, hw⟩ := hrel
      obtain rfl := hw.symm
      go_wp2_with fail
      go_ret
      exact ⟨none, 0, by rw [hl0]; rfl, [], [], M1.out, rfl, fun i hi => absurd hi (Nat.not_lt_zero _), .inl ⟨rfl, rfl, rfl⟩, A2.out⟩
  · have HG := hid (show w.heap.size ≤ g by simp only [World.size_alloc] at hg; omega)
    have HD := hid hD
    have HGL := hid hglt
    clear m1 m3 HR hg hD hglt
    go_wp2_with fail
    go_loopw [14] (fun iv wr => ∃ (i : Nat) (n : List Hd), iv = .int .i64 (i : Int) ∧ i ≤ l.length ∧ n.length = l.length ∧ Hid ((∀ k : Nat, k < m.length → n[k]!.r = m[k]!.r) ∧ Dat wr g n ∧ Adds w wr ∧ g < wr.heap.size)) (fun iv _ => l.length - (intOf iv).toNat)
    case atStart => exact ⟨0, m, rfl, Nat.zero_le _, hml, fun _ _ => rfl, HD.out, A2.out, HGL.out⟩
    case round =>
      obtain ⟨i, n, rfl, hi, hn, HI⟩ := hrel
      by_cases hlt : i < l.length
      · have hltz : (i : Int) < (l.length : Int) := by omega
        obtain ⟨x, hx⟩ : ∃ x, n[i]! = x := ⟨_, rfl⟩
        have c0 := HI.out.2.1.cell i (by omega)
        rw [hx] at c0
        have hxr : IsRow wr x := by have := HI.out.2.1.row (i := i) (by omega); rw [hx] at this; exact this
        have HC := hid (concat_row wr.heap.size x (wr.alloc (.cells #[.slice x.a x.r.length x.cap] 30)) (by rw [cellOf (heap_alloc_new wr _) 0]; rfl) (hxr.adds ((Touch.refl _ wr).alloc _)))
        have HX := hid hx
        clear hxr hx
        go_wp2_with (first | (go_at_call 22; refine HC.out.mono ?_; rintro e w3 ⟨a3, cap3, rfl, HN⟩; have DD := hid (HI.out.2.1.adds (show Adds wr w3 from ((Touch.refl _ wr).alloc _).trans HN.out.2.2)); have cg := DD.out.cell i (by omega); have fg := DD.out.fro i (by omega)))
        go_roundw
        case rel =>
          obtain ⟨n1, n2, n3⟩ := HN.out
          have hg2 := HI.out.2.2.2
          have hA3 : Adds wr w3 := ((Touch.refl _ wr).alloc _).trans n3
          refine ⟨i + 1, n.set i ⟨a3, cap3, x.r⟩, by go_num, by omega, by rw [List.length_set]; exact hn, fun k hk => ?_, DD.out.set (by omega) n1 (fun _ b o' e => ?_), ?_, ?_⟩
          · rw [M.get_set n i k _ (by omega)]
            by_cases e : k = i
            · subst e; rw [if_pos rfl, ← HI.out.1 k hk, HX.out]
            · rw [if_neg e]; exact HI.out.1 k hk
          · have := n2 b o' e
            simp only [World.size_alloc] at this
            omega
          · exact (HI.out.2.2.1.trans hA3).setCell (p := ⟨g, i, none⟩) (fun h => by have := HG.out; simp only at h; omega) _
          · have := hA3.size
            simp [World.setCell]; omega
        case measure => simp [intOf]; omega
      · have hltz : ¬ (i : Int) < (l.length : Int) := by omega
        go_wp2_with fail
        go_ret
        exact ⟨_, cap2, rfl, m, n, M1.out, by omega, HI.out.1, .inr ⟨g, rfl, HG.out, HI.out.2.2.2, by omega, HI.out.2.1⟩, HI.out.2.2.1⟩
end Go.Proofs.Ytkkmbpcmkhikkaa
