/- What an act leaves: states that fit. -/
import Derived.Test.YtllkplanjfnnmaaGreatDoorQ39
import Derived.Test.YtllkplanjfnnmaaGreatDoorQ28
namespace Go.Proofs.YtllkplanjfnnmaaGreatDoor
open Go.RowKit

/-- States of a law's pair, behind steps of at most n. -/
structure Fit (L : LS) (D : dSt) (n : Nat) : Prop where
  ok : L.Ok
  ct : L.ct ≤ 10
  ct1 : 1 ≤ L.ct
  ep : 1 ≤ L.ep
  fits : L.fr + L.ct ≤ D.size
  size : D.size ≤ 10
  dok : DOk D n
theorem Fit.mono {L : LS} {D : dSt} {n m : Nat} (h : Fit L D n) (hm : n ≤ m) : Fit L D m := ⟨h.ok, h.ct, h.ct1, h.ep, h.fits, h.size, h.dok.mono hm⟩
theorem goW_size {f : Nat → Int × List UInt8} : ∀ {r i : Nat} {D : dSt}, (goW f r i D).2.size = D.size
  | 0, i, D => by
    unfold goW
    split
    · rfl
    · rfl
  | r + 1, i, D => by
    unfold goW
    split
    · rfl
    · rw [goW_size (r := r) (i := i + 1)]; rfl
set_option maxRecDepth 100000 in
theorem Fit.com {L : LS} {D : dSt} {n : Nat} (h : Fit L D n) : Fit (comL L D) (comD L D) (n + 11) := by
  have hk := h.ok.com D
  by_cases h1 : L.cl = true
  · rw [comL, if_pos h1] at hk
    rw [comL, comD, if_pos h1, if_pos h1]
    exact h.mono (by omega)
  · by_cases h2 : L.R = []
    · rw [comL, comD, if_neg h1, if_neg h1, if_pos h2, if_pos h2]
      exact h.mono (by omega)
    · have hw := h.ok.wt h2
      have h3 := h.ct
      have hd : DOk (comR L D).2 (n + 11) := (goW_ok (f := fW L.fr L.ep (W.usedOf L.G) (W.gbytes L.R)) (i := 0) (r := W.secs (W.gbytes L.R).length) h.dok).mono (by omega)
      have hs : (comR L D).2.size = D.size := goW_size
      have hf := h.fits
      by_cases h4 : (comR L D).1 = 0
      · have e : comL L D = { L with G := L.G ++ [W.gbytes L.R], R := [] } := by rw [comL, if_neg h1, if_neg h2, if_pos h4]
        have e2 : comD L D = (comR L D).2 := by rw [comD, if_neg h1, if_neg h2]
        rw [e] at hk ⊢
        rw [e2]
        exact ⟨hk, h.ct, h.ct1, h.ep, by rw [hs]; exact hf, by rw [hs]; exact h.size, hd⟩
      · have e : comL L D = { L with cl := true, R := [] } := by rw [comL, if_neg h1, if_neg h2, if_neg h4]
        have e2 : comD L D = (comR L D).2 := by rw [comD, if_neg h1, if_neg h2]
        rw [e] at hk ⊢
        rw [e2]
        exact ⟨hk, h.ct, h.ct1, h.ep, by rw [hs]; exact hf, by rw [hs]; exact h.size, hd⟩
set_option maxRecDepth 100000 in
theorem Fit.beg {L : LS} {D : dSt} {n : Nat} (h : Fit L D n) (e : Int) : Fit (begL L e) D (n + 11) := by
  have hk := h.ok.beg e
  unfold begL at hk ⊢
  split
  · exact h.mono (by omega)
  · rename_i h1
    rw [if_neg h1] at hk
    refine ⟨hk, h.ct, h.ct1, ?_, h.fits, h.size, h.dok.mono (by omega)⟩
    show 1 ≤ e.toNat
    have := h.ep
    omega
set_option maxRecDepth 100000 in
theorem Fit.app {L : LS} {D : dSt} {n : Nat} (h : Fit L D n) (bs : List UInt8) : Fit (appL L bs) D (n + 11) := by
  have hk := h.ok.app bs
  unfold appL at hk ⊢
  split
  · rename_i h1
    rw [if_pos h1] at hk
    exact ⟨hk, h.ct, h.ct1, h.ep, h.fits, h.size, h.dok.mono (by omega)⟩
  · exact h.mono (by omega)
theorem Fit.drop {L : LS} {D : dSt} {n : Nat} (h : Fit L D n) : Fit { L with R := [] } D (n + 11) :=
  ⟨⟨h.ok.fr, h.ok.ct, h.ok.ep, h.ok.us, fun c => absurd rfl c, h.ok.good⟩, h.ct, h.ct1, h.ep, h.fits, h.size, h.dok.mono (by omega)⟩
set_option maxRecDepth 100000 in
theorem Fit.cut {L : LS} {D : dSt} {n : Nat} (h : Fit L D n) (z : Int) (hz : z ≤ 9223372036854775807) : Fit L (cutD D z) (n + 11) := by
  unfold cutD
  split
  · have k := h.dok
    have := k.steps1
    have := k.waits
    refine ⟨h.ok, h.ct, h.ct1, h.ep, h.fits, h.size, ⟨by show D.W.length ≤ _; omega, k.steps0, by show D.steps ≤ _; omega, ?_, ?_, k.size⟩⟩
    · show -1 ≤ if D.left = 0 then 0 else z
      split <;> omega
    · show (if D.left = 0 then 0 else z) ≤ _
      split <;> omega
  · exact h.mono (by omega)
set_option maxRecDepth 100000 in
theorem Fit.spoil {L : LS} {D : dSt} {n : Nat} (h : Fit L D n) (i a : Int) (b : UInt8) : Fit L (spoilD D i a b) (n + 11) := by
  unfold spoilD
  split
  · have k := h.dok
    have := k.steps1
    have := k.waits
    exact ⟨h.ok, h.ct, h.ct1, h.ep, h.fits, h.size, ⟨by show (D.W.map _).length ≤ _; rw [List.length_map]; omega, k.steps0, by show D.steps ≤ _; omega, k.left0, k.left1, k.size⟩⟩
  · exact h.mono (by omega)
theorem Fit.lost {L : LS} {D : dSt} {n : Nat} (h : Fit L D n) (ks : List Bool) (torn at_ : Int) : Fit L (D.lost ks torn at_) (n + 11) :=
  ⟨h.ok, h.ct, h.ct1, h.ep, h.fits, h.size, ⟨Nat.zero_le _, Int.le_refl _, by show (0 : Int) ≤ _; omega, by show (-1 : Int) ≤ -1; decide, by show (-1 : Int) ≤ _; decide, h.dok.size⟩⟩
set_option maxRecDepth 100000 in
theorem Fit.open {D : dSt} {n : Nat} {fr ct ep : Int} (h : opOk D fr ct ep) (hs : D.size ≤ 10) (hd : DOk D n) : Fit (opL fr.toNat ct.toNat ep.toNat (secOf D fr.toNat)) D n := by
  have h1 := h.1
  refine ⟨opL_ok (by omega) (by omega) (by omega), ?_, ?_, ?_, ?_, hs, hd⟩
  · show ct.toNat ≤ 10; omega
  · show 1 ≤ ct.toNat; omega
  · show 1 ≤ ep.toNat; omega
  · show ((fr.toNat : Nat) : Int) + ((ct.toNat : Nat) : Int) ≤ D.size; omega
/-- What an act leaves. -/
def PDo (w0 : World) (pp n : Nat) (e : Ending) (w' : World) : Prop := e = .returned (.bool true) ∧ Hid (∃ l d q r L D, PwE w0 w' [(pp, PBox d r (Ptr l) (Ptr q))] l d q r L L D D ∧ Fit L D n)
/-- How much greater an epoch is to be. -/
def moreM (z : Int) : Nat := (z % 18446744073709551616).toNat % 3
set_option maxRecDepth 100000 in
theorem more_wrap (z : Int) : wrap64 ((IntKind.u64.wrap z).tmod 3) = (moreM z : Int) := by
  have h1 : IntKind.u64.wrap z = z % 18446744073709551616 := by rw [IntKind.wrap_u64]
  have h0 : 0 ≤ z % 18446744073709551616 := Int.emod_nonneg _ (by decide)
  rw [h1, Int.tmod_eq_emod_of_nonneg h0]
  unfold wrap64 moreM
  omega
/-- The act's cells. -/
abbrev actA (k n p : Int) (c : UInt8) (ka : Option Addr) (kn kc : Nat) (torn at_ : Int) : Array Value := #[.int .i64 k, .int .i64 n, .int .i64 p, .int .u8 (c.toNat : Int), .slice ka kn kc, .int .i64 torn, .int .i64 at_]
set_option maxRecDepth 100000 in
/-- The reference's log forgets what waits. -/
theorem pwq_forget {w0 w : World} {X : List (Nat × Obj)} {l d q r : Nat} {L L' : LS} {D D' : dSt} (h : PwE w0 w X l d q r L L' D D') : PwE w0 (w.setCell ⟨q, 6, none⟩ (.slice none 0 0)) X l d q r L { L' with R := [] } D D' := by
  obtain ⟨OL, OD, OQ, OR, h⟩ := h
  obtain ⟨vL, t, s, hq⟩ := h.isq
  have hT : Touch (fun k => k = q) w (w.setCell ⟨q, 6, none⟩ (.slice none 0 0)) := Touch.setCell (T := fun k => k = q) (Touch.refl _ w) (p := ⟨q, 6, none⟩) (fun _ => rfl) _
  have hT2 : Touch (fun k => OQ k ∨ OR k) w (w.setCell ⟨q, 6, none⟩ (.slice none 0 0)) := hT.mono (fun k _ c => by subst c; exact .inl hq.oq)
  exact ⟨OL, OD, OQ, OR, h.refs ⟨vL, t, _, hq.drop⟩ (h.ro.touch hT (fun k c e => h.apq q hq.oq (by rw [← e]; exact c))) h.apq hT2 (fun _ c => .inl c)⟩
set_option maxRecDepth 100000 in
/-- The reference's box. -/
theorem PwE.qbox {w0 w : World} {X : List (Nat × Obj)} {l d q r : Nat} {L L' : LS} {D D' : dSt} (h : PwE w0 w X l d q r L L' D D') : ∃ vL sa sc, w.heap[q]? = some (.cells #[Ptr r, .int .i64 (L'.fr : Int), .int .i64 (L'.ct : Int), .int .i64 (L'.ep : Int), .bool L'.cl, vL, .slice sa L'.R.length sc] 67 (0, 0)) := by
  obtain ⟨OL, OD, OQ, OR, h⟩ := h
  obtain ⟨vL, t, s, hq⟩ := h.isq
  refine ⟨vL, s.a, s.cap, ?_⟩
  have e : s.l.length = L'.R.length := by rw [← hq.rest, Pl.bs, List.length_map]
  rw [← e]
  exact hq.box
end Go.Proofs.YtllkplanjfnnmaaGreatDoor
