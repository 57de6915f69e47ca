/- What a Save leaves that is cut, and what is opened then: by definition; Cut, Lose. -/
import Derived.Test.YtmmgfankbabfbaaDoorQ33
import Derived.Test.YtmmgfankbabfbaaDoorQ35
namespace Go.Proofs.YtmmgfankbabfbaaDoor
open Go.RowKit
set_option maxRecDepth 100000 in
theorem put_none (s : U.MS) : (s.put s.other ⟨0, []⟩).lat = s.lat := by
  unfold U.MS.put U.MS.other U.MS.lat U.MS.which
  by_cases h0 : s.a.ep = 0 ∧ s.b.ep = 0
  · simp only [if_pos h0]
    simp
    intro h
    exact absurd h0.2 h
  · by_cases h1 : s.a.ep < s.b.ep
    · simp only [if_neg h0, if_pos h1]
      simp
      rw [if_neg (by omega), if_pos (by omega)]
    · simp only [if_neg h0, if_neg h1]
      simp
      intro h
      omega
set_option maxRecDepth 100000 in
theorem put_self (s : U.MS) : s.put s.other (if s.other = 0 then s.a else s.b) = s := by
  have := other_lt s
  rcases (show s.other = 0 ∨ s.other = 1 by omega) with e | e
  · rw [e, if_pos rfl]; rfl
  · rw [e, if_neg (by decide)]; rfl
set_option maxRecDepth 100000 in
/-- A disk whose other slot alone is another one. -/
theorem ms_upd {s : U.MS} {D X : dSt} (h : On s D) (hW : X.W = []) (v : List UInt8) (hH : X.H = upd D.H ((s.at_ + s.other : Nat) : Int) v) : msAt X s.at_ = s.put s.other (U.slot v) := by
  have e0 : secOf X s.at_ 0 = X.H (s.at_ : Int) := by unfold secOf; rw [hW, Nat.add_zero]; rfl
  have e1 : secOf X s.at_ 1 = X.H ((s.at_ + 1 : Nat) : Int) := by unfold secOf; rw [hW]; rfl
  have := other_lt s
  rcases (show s.other = 0 ∨ s.other = 1 by omega) with e | e
  · rw [msAt, e0, e1, hH, e, upd, upd, if_pos (by omega), if_neg (by omega), h.b.slot]; rfl
  · rw [msAt, e0, e1, hH, e, upd, upd, if_neg (by omega), if_pos rfl, h.a.slot]; rfl
set_option maxRecDepth 100000 in
theorem ms_same {s : U.MS} {D X : dSt} (h : On s D) (hW : X.W = []) (hH : X.H = D.H) : msAt X s.at_ = s := by
  have e0 : secOf X s.at_ 0 = X.H (s.at_ : Int) := by unfold secOf; rw [hW, Nat.add_zero]; rfl
  have e1 : secOf X s.at_ 1 = X.H ((s.at_ + 1 : Nat) : Int) := by unfold secOf; rw [hW]; rfl
  rw [msAt, e0, e1, hH, h.a.slot, h.b.slot]
set_option maxRecDepth 100000 in
/-- How a Save ends that is cut behind c steps, and what is opened behind a loss. -/
theorem crash {s : U.MS} {D : dSt} (h : On s D) {k c : Nat} {ns : List Nat} (h0 : s.lat.ep < k) (h1 : k ≤ 1000000000) (hF : U.Fit ns) (hc : c ≤ 3) :
    ∃ z D', savR s ns k (D.cut (c : Int)) = (z, D') ∧ D'.size = D.size ∧ D'.W.length ≤ 1 ∧
      ((z = 0 ∧ ∀ (ks : List Bool) (tn at_ : Int), (msAt (D'.lost ks tn at_) s.at_).lat = ⟨k, ns⟩) ∨
       (z = 10 ∧ ∀ (ks : List Bool) (tn at_ : Int), (0 ≤ tn ∧ tn < D'.W.length → 0 ≤ at_ ∧ at_ ≤ 256) → (msAt (D'.lost ks tn at_) s.at_).lat = ⟨k, ns⟩ ∨ (msAt (D'.lost ks tn at_) s.at_).lat = s.lat)) := by
  have hcut : D.cut (c : Int) = { D with left := (c : Int) } := by unfold dSt.cut; rw [h.left, if_neg (by decide)]
  obtain ⟨i, hi⟩ : ∃ i, i = (savW s ns k).1 := ⟨_, rfl⟩
  obtain ⟨y, hy⟩ : ∃ y, y = (savW s ns k).2 := ⟨_, rfl⟩
  have hi2 : i = ((s.at_ + s.other : Nat) : Int) := hi
  have hy2 : y = M.sector k 3 (U.pbytes ns) := hy
  have hold := h.held
  have hle := other_le s
  have hnew : U.slot y = ⟨k, ns⟩ := by rw [hy2]; exact U.slot_put (by omega) h1 hF
  have hk3 := (put_lat (s := s) (ns := ns) h0).1
  rcases (show c = 0 ∨ c = 1 ∨ 2 ≤ c by omega) with rfl | rfl | h2
  · refine ⟨10, D.cut 0, ?_, rfl, by show D.W.length ≤ 1; rw [h.wait]; exact Nat.zero_le _, .inr ⟨rfl, fun ks tn at_ _ => .inr ?_⟩⟩
    · unfold savR goW
      rw [if_pos (by rw [hcut]; rfl)]; rfl
    · rw [ms_same h rfl]
      show loseTo D.H D.W ks tn at_ D.W.length = D.H
      rw [h.wait]; rfl
  · refine ⟨10, (D.cut ((1 : Nat) : Int)).wrote i y, ?_, rfl, by show (D.W ++ [(i, y)]).length ≤ 1; rw [h.wait]; exact Nat.le_refl _, .inr ⟨rfl, fun ks tn at_ hat => ?_⟩⟩
    · unfold savR goW
      rw [if_neg (by rw [hcut]; show ¬ ((1 : Nat) : Int) = 0; decide)]
      unfold goW
      rw [if_pos (by rw [hcut]; rfl), ← hi, ← hy]
    · have hWl : ((D.cut ((1 : Nat) : Int)).wrote i y).W = [(i, y)] := by show D.W ++ [(i, y)] = _; rw [h.wait]; rfl
      have hH : (((D.cut ((1 : Nat) : Int)).wrote i y).lost ks tn at_).H = loseOne ks tn at_ 0 (i, y) D.H := by
        show loseTo D.H ((D.cut ((1 : Nat) : Int)).wrote i y).W ks tn at_ ((D.cut ((1 : Nat) : Int)).wrote i y).W.length = _
        rw [hWl]; rfl
      rw [hWl] at hat
      unfold loseOne at hH
      by_cases ht : ((0 : Nat) : Int) = tn
      · rw [if_pos ht] at hH
        have ha := hat ⟨by omega, by rw [← ht]; show ((0 : Nat) : Int) < ((1 : Nat) : Int); decide⟩
        have hv := ms_upd h (X := ((D.cut ((1 : Nat) : Int)).wrote i y).lost ks tn at_) rfl (y.take at_.toNat ++ (D.H i).drop at_.toNat) (by rw [hH, hi2])
        rcases hold.torn (e := k) (fs := ns) (Nat.lt_of_le_of_lt hle h0) h1 hF at_.toNat (by omega) with q | q | q
        · rw [← hy2, ← hi2] at q
          rw [q, hi2, hold.slot, put_self] at hv
          rw [← hi2] at hv
          rw [hv]; exact .inr rfl
        · rw [← hy2, ← hi2] at q
          rw [q, hnew] at hv
          rw [hv]; exact .inl hk3
        · rw [← hy2, ← hi2] at q
          rw [q] at hv
          rw [hv]; exact .inr (put_none s)
      · rw [if_neg ht] at hH
        by_cases hk : ks.getD 0 false = true
        · rw [if_pos hk] at hH
          have hv := ms_upd h (X := ((D.cut ((1 : Nat) : Int)).wrote i y).lost ks tn at_) rfl y (by rw [hH, hi2])
          rw [hv, hnew]; exact .inl hk3
        · rw [if_neg hk] at hH
          rw [ms_same h rfl hH]; exact .inr rfl
  · refine ⟨0, ((D.cut (c : Int)).wrote i y).synced, ?_, rfl, Nat.zero_le _, .inl ⟨rfl, fun ks tn at_ => ?_⟩⟩
    · have q := goW_all (f := fun _ => savW s ns k) (r := 1) (i := 0) (D := D.cut (c : Int)) (.inr (by rw [hcut]; show ((1 : Nat) : Int) < (c : Int); omega))
      unfold savR
      rw [q, hi, hy]; rfl
    · have hH : (((D.cut (c : Int)).wrote i y).synced.lost ks tn at_).H = upd D.H i y := by
        show loseTo (syncH D.H (D.W ++ [(i, y)])) [] ks tn at_ 0 = _
        rw [h.wait]; rfl
      have hv := ms_upd h (X := ((D.cut (c : Int)).wrote i y).synced.lost ks tn at_) rfl y (by rw [hH, hi2])
      rw [hv, hnew]; exact hk3
set_option maxRecDepth 100000 in
theorem ml_cut {w0 w : World} {OM OD : Nat → Prop} {m p : Nat} {s : U.MS} {D : dSt} (h : Ml w0 w OM OD m p s D) (hs : 0 < D.size) (n : Int) (hn : 0 ≤ n) : Calls Tryd.prog 18 #[Ptr p, .int .i64 n] w (PMl w0 w OM OD m p s (D.cut n) (.int .i64 0)) := by
  obtain ⟨hb, wv, hd, h1, h2, h3⟩ := h.disk
  refine (cut_ok 0 p hb wv D n w hd hs hn).mono ?_
  rintro e w' ⟨he, hd', hT⟩
  have hT' : Touch OD w w' := hT.mono (fun k _ c => by subst c; exact h1)
  refine ⟨he, OM, OD, ⟨h.mas.touch hT' (fun k q c => h.apart k q c), ⟨hb, wv, hd', h1, h2, h3⟩, h.apart, h.low, fun k q => Nat.lt_of_lt_of_le (h.lt k q) hT.size, h.adds.then hT' (fun k hk c => by have := h.low k (.inr c); omega)⟩, hT'.mono (fun k _ c => .inr c), fun _ c => .inl c⟩
/-- A disk behind a loss. -/
def PLoU (w : World) (D : dSt) (e : Ending) (w' : World) : Prop := ∃ p, e = .returned (.tuple #[Ptr p, .int .i64 0]) ∧ Hid (∃ OD, IsDO w' OD p D ∧ (∀ k, OD k → w.heap.size ≤ k ∧ k < w'.heap.size) ∧ Adds w w')
set_option maxRecDepth 100000 in
theorem do_lose {w : World} {OD : Nat → Prop} {p : Nat} {D : dSt} (h : IsDO w OD p D) (hn : D.W.length ≤ 900) (hsz : 0 < D.size) (ka : Option Addr) (kn kc : Nat) (ks : List Bool) (hkl : ks.length = kn) (torn at_ : Int) (hks : KeptAt w ka ks) (hkn : kn ≤ 9223372036854775807) (hat : 0 ≤ torn ∧ torn < D.W.length → 0 ≤ at_ ∧ at_ ≤ 256) :
    Calls Tryd.prog 19 #[Ptr p, .agg #[.slice ka kn kc, .int .i64 torn, .int .i64 at_]] w (PLoU w (D.lost ks torn at_)) := by
  subst hkl
  obtain ⟨hb, wv, hd, h1, h2, h3⟩ := h
  refine (lose_ok 0 p hb wv D ka kc ks torn at_ w hd (by omega) hsz (Nat.zero_le _) hks hkn hat).mono ?_
  rintro e w' ⟨q, hb', he, hq, hhb, hd', hA⟩
  refine ⟨q, he, fun k => k = q ∨ k = hb', ⟨hb', _, hd', .inl rfl, .inr rfl, fun k hk => (by cases hk)⟩, fun k c => ?_, hA⟩
  have q1 := (Array.getElem?_eq_some_iff.1 hd'.box).1
  obtain ⟨es, cl, q2, _⟩ := hd'.held
  have q2 := (Array.getElem?_eq_some_iff.1 q2).1
  rcases c with rfl | rfl <;> omega
set_option maxRecDepth 100000 in
theorem do_bad {w : World} {OD : Nat → Prop} {p : Nat} {D : dSt} (h : IsDO w OD p D) (hn : D.W.length ≤ 900) (hsz : 0 < D.size) (ka : Option Addr) (kn kc : Nat) (torn at_ : Int) (ht : 0 ≤ torn ∧ torn < D.W.length) (hat : at_ < 0 ∨ 256 < at_) :
    Calls Tryd.prog 19 #[Ptr p, .agg #[.slice ka kn kc, .int .i64 torn, .int .i64 at_]] w (Adding (.tuple #[.pointer none, .int .i64 2]) w) := by
  obtain ⟨hb, wv, hd, h1, h2, h3⟩ := h
  refine (lose_bad 0 p hb wv D ka kn kc torn at_ w hd hsz (by omega) ht hat).mono ?_
  rintro e w' ⟨he, hA⟩
  exact ⟨he, hA⟩
set_option maxRecDepth 100000 in
/-- The master that is opened on it. -/
theorem do_open {w : World} {OD : Nat → Prop} {p : Nat} {D : dSt} (hD : IsDO w OD p D) (hT : Tab w) (ks : List Bool) (tn at_ : Int) (X : dSt) (hX : D = X.lost ks tn at_) (hs : X.size = 3) : Calls Tryd.prog 13 #[Ptr p, .int .i64 1] w (PMas w p (msAt D 1)) := by
  subst hX
  exact mopen_ok hD (n0 := 0) ⟨Nat.le_refl _, Int.le_refl _, Int.le_refl _, Int.le_refl _, by show (-1 : Int) ≤ _; decide, by show 0 < X.size; rw [hs]; decide⟩ (by decide) hT 1 (by show ((1 : Nat) : Int) + 2 ≤ X.size; rw [hs]; decide) (by show X.size ≤ 4096; rw [hs]; decide) (by show (-1 : Int) ≠ 0; decide)
end Go.Proofs.YtmmgfankbabfbaaDoor
