/- Small facts ahead of WalEpochs. -/
import Derived.Test.YtlgbgedkedddaaaDoorWELaw
import Derived.Test.YtlgbgedkedddaaaDoorWFull
namespace Go.Proofs.YtlgbgedkedddaaaDoor
open Go.RowKit
set_option maxRecDepth 100000 in
theorem two_secs {L : LS} (h : Two L) (hk : L.Ok) (hR : L.R ≠ []) : W.secs (W.gbytes L.R).length ≤ 9 := by
  have := hk.wt hR
  rw [h.ct] at this
  omega
set_option maxRecDepth 100000 in
theorem two_dok {L : LS} {D : dSt} {n : Nat} (h : Two L) (hk : L.Ok) (hD : Old D 9) (hd : DOk D n) : DOk (comD L D) (n + 10) := by
  have hc : ¬ L.cl = true := by rw [h.cl]; decide
  by_cases hR : L.R = []
  · rw [comD, if_neg hc, if_pos hR]
    exact hd.mono (by omega)
  · have hs := two_secs h hk hR
    obtain ⟨_, e2⟩ := goW_good (L := L) hD.left
    rw [comD, if_neg hc, if_neg hR, e2]
    have q1 := hd.steps0
    have q2 := hd.steps1
    have q3 : ((wroteN D (fW L.fr L.ep (W.usedOf L.G) (W.gbytes L.R)) 0 (W.secs (W.gbytes L.R).length)).synced).steps = D.steps + (W.secs (W.gbytes L.R).length : Nat) + 1 := by
      show (wroteN D _ 0 _).steps + 1 = _
      rw [wroteN_steps]
    have q4 : ((wroteN D (fW L.fr L.ep (W.usedOf L.G) (W.gbytes L.R)) 0 (W.secs (W.gbytes L.R).length)).synced).left = -1 := by
      show less (wroteN D _ 0 _).left = -1
      rw [wroteN_uncut _ _ hD.left]; rfl
    refine ⟨Nat.zero_le _, by omega, by omega, by omega, by omega, ?_⟩
    show 0 < (wroteN D _ 0 _).size
    rw [wroteN_size]; exact hd.size
/-- What a law's bytes are, whatever they be. -/
def PB8 (w : World) (e : Ending) (w' : World) : Prop := ∃ (bs : List UInt8) (bl : Nat), e = .returned (.slice (some ⟨w.heap.size, 0, none⟩) bl bl) ∧ Hid (bl = bs.length ∧ bl < 700 ∧ w'.heap[w.heap.size]? = some (.cells (S bs).toArray 5 (0, 0)) ∧ Adds w w')
set_option maxRecDepth 100000 in
theorem body_p (z : Int) (c : UInt8) (w : World) : Calls Tryd.prog 19 #[.int .i64 z, .int .u8 (c.toNat : Int)] w (PB8 w) := by
  refine (body8_any z c w).mono ?_
  rintro e w' ⟨he, h⟩
  exact ⟨_, _, he, rfl, len_bodyN z c, h.out⟩
/-- What an Append in the first loop leaves. -/
def PAp8 (w0 : World) (l p : Nat) (D : dSt) (e : Ending) (w' : World) : Prop := ∃ z : Int, e = .returned (.int .i64 z) ∧ Hid (∃ L OL OD, Wl w0 w' OL OD l p L D ∧ Two L ∧ L.Ok)
set_option maxRecDepth 100000 in
theorem app_two {w0 w : World} {OL OD : Nat → Prop} {l p : Nat} {L : LS} {D : dSt} (h : Wl w0 w OL OD l p L D) (h2 : Two L) (hk : L.Ok) (a : Option Addr) (bs : List UInt8) (n cap : Nat) (hn : n = bs.length) (hA : At w a bs) : Calls Tryd.prog 9 #[Ptr l, .slice a n cap] w (PAp8 w0 l p D) := by
  refine (wl_append h hk a bs n cap hn.symm hA).mono ?_
  rintro e w' ⟨he, q⟩
  obtain ⟨OL', OD', q1, _, _⟩ := q.out
  exact ⟨_, he, _, _, _, q1, h2.app bs, hk.app bs⟩
def PCo8 (w0 : World) (l p n : Nat) (e : Ending) (w' : World) : Prop := e = .returned (.int .i64 0) ∧ Hid (∃ L D OL OD, Wl w0 w' OL OD l p L D ∧ Two L ∧ L.Ok ∧ Old D 9 ∧ DOk D n)
set_option maxRecDepth 100000 in
theorem com_two {w0 w : World} {OL OD : Nat → Prop} {l p n : Nat} {L : LS} {D : dSt} (h : Wl w0 w OL OD l p L D) (h2 : Two L) (hk : L.Ok) (hD : Old D 9) (hd : DOk D n) (hn : n ≤ 700) (hT : Tab w0) : Calls Tryd.prog 10 #[Ptr l] w (PCo8 w0 l p (n + 10)) := by
  obtain ⟨e1, e2, e3⟩ := two_com h2 hD
  have q := wl_commit h hk hd (by rw [h2.ct]; omega) (by rw [h2.fr, h2.ct, hD.size]; decide) hT
  rw [e1] at q
  refine q.mono ?_
  rintro e w' ⟨he, q⟩
  obtain ⟨OL', OD', q1, _, _⟩ := q.out
  exact ⟨he, _, _, _, _, q1, e2, hk.com D, e3, two_dok h2 hk hD hd⟩
set_option maxRecDepth 100000 in
theorem com8 {w0 w : World} {l p n : Nat} {D : dSt} (h : ∃ L OL OD, Wl w0 w OL OD l p L D ∧ Two L ∧ L.Ok) (hD : Old D 9) (hd : DOk D n) (hn : n ≤ 700) (hT : Tab w0) : Calls Tryd.prog 10 #[Ptr l] w (PCo8 w0 l p (n + 10)) := by
  obtain ⟨L, OL, OD, h1, h2, h3⟩ := h
  exact com_two h1 h2 h3 hD hd hn hT
set_option maxRecDepth 100000 in
theorem next8 {w0 w : World} {l p n m : Nat} {D : dSt} (h : ∃ L OL OD, Wl w0 w OL OD l p L D ∧ Two L ∧ L.Ok) (hD : Old D 9) (hd : DOk D n) (hm : n ≤ m) : ∃ L D OL OD, Wl w0 w OL OD l p L D ∧ Two L ∧ L.Ok ∧ Old D 9 ∧ DOk D m := by
  obtain ⟨L, OL, OD, h1, h2, h3⟩ := h
  exact ⟨L, D, OL, OD, h1, h2, h3, hD, hd.mono hm⟩
/-- The log, begun anew. -/
abbrev L9 (R : List (List UInt8)) : LS := ⟨1, 9, 3, false, [], R⟩
set_option maxRecDepth 100000 in
theorem beg_two {L : LS} (h : Two L) : begE L 2 = 2 ∧ begL L 2 = L ∧ begE L 3 = 0 ∧ begL L 3 = L9 [] := by
  have hep := h.ep
  have hfr := h.fr
  have hct := h.ct
  refine ⟨by rw [begE, if_pos (by omega)], by rw [begL, if_pos (by omega)], by rw [begE, if_neg (by omega)], ?_⟩
  rw [begL, if_neg (by omega), hfr, hct]; rfl
set_option maxRecDepth 100000 in
theorem beg2_two {w0 w : World} {OL OD : Nat → Prop} {l p : Nat} {L : LS} {D : dSt} (h : Wl w0 w OL OD l p L D) (h2 : Two L) : Calls Tryd.prog 8 #[Ptr l, .int .i64 2] w (PWl w0 w OL OD l p L D (.int .i64 2)) := by
  have q := wl_begin h 2
  rw [(beg_two h2).1, (beg_two h2).2.1] at q
  exact q
set_option maxRecDepth 100000 in
theorem beg3_two {w0 w : World} {OL OD : Nat → Prop} {l p : Nat} {L : LS} {D : dSt} (h : Wl w0 w OL OD l p L D) (h2 : Two L) : Calls Tryd.prog 8 #[Ptr l, .int .i64 3] w (PWl w0 w OL OD l p (L9 []) D (.int .i64 0)) := by
  have q := wl_begin h 3
  rw [(beg_two h2).2.2.1, (beg_two h2).2.2.2] at q
  exact q
set_option maxRecDepth 100000 in
theorem steps_l {w0 w : World} {OL OD : Nat → Prop} {l p : Nat} {L : LS} {D : dSt} {n : Nat} {st : Int} (h : Wl w0 w OL OD l p L D) (hd : DOk D n) (hs : st = D.steps) : Calls Tryd.prog 23 #[Ptr p] w (Tells (.int .i64 st) w) := by
  rw [hs]; exact wl_steps h hd.size
/-- No group. -/
def PNone (w : World) (e : Ending) (w' : World) : Prop := ∃ a c, e = .returned (.slice a 0 c) ∧ Adds w w'
set_option maxRecDepth 100000 in
theorem groups_no {w0 w : World} {OL OD : Nat → Prop} {l p : Nat} {L : LS} {D : dSt} (h : Wl w0 w OL OD l p L D) (hG : L.G = []) : Calls Tryd.prog 12 #[Ptr l] w (PNone w) := by
  refine (wl_groups h (by rw [hG]; intro g hg; cases hg) (by rw [hG]; exact Nat.zero_le _)).mono ?_
  rintro e w' ⟨v, t, he, q⟩
  obtain ⟨q1, q2, q3⟩ := q.out
  rw [hG] at q2
  obtain rfl : t = [] := by cases t with
    | nil => rfl
    | cons => cases q2
  obtain ⟨a, c, e1, _⟩ := own_cq q1.rows
  exact ⟨a, c, by rw [he, e1]; rfl, q3⟩
end Go.Proofs.YtlgbgedkedddaaaDoor
