/- Cut, Pending, Lose and Open of a law. -/
import Derived.Test.YtlgbgedkedddaaaDoorWEMath
import Derived.Test.YtlgbgedkedddaaaDoorWFull0
import Derived.Test.YtlgbgedkedddaaaDoorWSame
namespace Go.Proofs.YtlgbgedkedddaaaDoor
open Go.RowKit
set_option maxRecDepth 100000 in
theorem wl_cut {w0 w : World} {OL OD : Nat → Prop} {l p : Nat} {L : LS} {D : dSt} (h : Wl w0 w OL OD l p L D) (hs : 0 < D.size) (n : Int) (hn : 0 ≤ n) : Calls Tryd.prog 18 #[Ptr p, .int .i64 n] w (PWl w0 w OL OD l p L (D.cut n) (.int .i64 0)) := by
  obtain ⟨hb, wv, hd, h1, h2, h3⟩ := h.disk
  refine (cut_ok 0 p hb wv D n w hd hs hn).mono ?_
  rintro e w' ⟨he, hd', hT⟩
  have hT' : Touch OD w w' := hT.mono (fun k _ c => by subst c; exact h1)
  refine ⟨he, OL, OD, ⟨h.log.touch hT' (fun k q c => h.apart k q c), ⟨hb, wv, hd', h1, h2, h3⟩, h.apart, h.low, fun k q => Nat.lt_of_lt_of_le (h.lt k q) hT.size, h.adds.then hT' (fun k hk c => by have := h.low k (.inr c); omega)⟩, hT'.mono (fun k _ c => .inr c), fun _ c => .inl c⟩
theorem wl_groups {w0 w : World} {OL OD : Nat → Prop} {l p : Nat} {L : LS} {D : dSt} (h : Wl w0 w OL OD l p L D) (hb : ∀ g ∈ L.G, g.length ≤ 1000000) (hn : L.G.length ≤ 10000) : Calls Tryd.prog 12 #[Ptr l] w (PGroups w (L.G.map W.recs)) := lgroups_any h.log hb hn
/-- A disk behind a loss. -/
def PLo (w : World) (D : dSt) (e : Ending) (w' : World) : Prop := ∃ p, e = .returned (.tuple #[Ptr p, .int .i64 0]) ∧ Hid (∃ OD, IsDO w' OD p D ∧ (∀ k, OD k → w.heap.size ≤ k ∧ k < w'.heap.size) ∧ Adds w w')
set_option maxRecDepth 100000 in
theorem wl_lose {w0 w : World} {OL OD : Nat → Prop} {l p : Nat} {L : LS} {D : dSt} (h : Wl w0 w OL OD l p L D) (hn : D.W.length ≤ 900) (hsz : 0 < D.size) (ka : Option Addr) (kc : Nat) (ks : List Bool) (torn at_ : Int) (hks : KeptAt w ka ks) (hkn : ks.length ≤ 9223372036854775807) (hat : 0 ≤ torn ∧ torn < D.W.length → 0 ≤ at_ ∧ at_ ≤ 256) :
    Calls Tryd.prog 20 #[Ptr p, .agg #[.slice ka ks.length kc, .int .i64 torn, .int .i64 at_]] w (PLo w (D.lost ks torn at_)) := by
  obtain ⟨hb, wv, hd, h1, h2, h3⟩ := h.disk
  refine (lose_ok 0 p hb wv D ka kc ks torn at_ w hd (by omega) hsz (Nat.zero_le _) hks hkn hat).mono ?_
  rintro e w' ⟨q, hb', he, hq, hhb, hd', hA⟩
  refine ⟨q, he, fun k => k = q ∨ k = hb', ⟨hb', _, hd', .inl rfl, .inr rfl, fun k hk => (by cases hk)⟩, fun k c => ?_, hA⟩
  have q1 := (Array.getElem?_eq_some_iff.1 hd'.box).1
  obtain ⟨es, cl, q2, _⟩ := hd'.held
  have q2 := (Array.getElem?_eq_some_iff.1 q2).1
  rcases c with rfl | rfl <;> omega
/-- The log that is opened on it. -/
theorem lo_open {w : World} {OD : Nat → Prop} {p : Nat} {D : dSt} (hD : IsDO w OD p D) (hO : ∀ k, OD k → k < w.heap.size) (hT : Tab w) (hl : D.left = -1) (hs : D.size = 10) (h0 : D.W = []) (h1 : D.steps = 0) (e : Nat) (he : 1 ≤ e) (he2 : e ≤ 1000) : Calls Tryd.prog 7 #[Ptr p, .int .i64 1, .int .i64 9, .int .i64 (e : Int)] w (PLog w p ⟨1, 9, e, true, (W.find e (secOf D 1) 9 0 [] [] 0).1, []⟩) :=
  open_ok hD (n0 := 0) ⟨by rw [h0]; exact Nat.le_refl _, by rw [h1]; exact Int.le_refl _, by rw [h1]; exact Int.le_refl _, by rw [hl]; exact Int.le_refl _, by rw [hl]; decide, by rw [hs]; decide⟩ (by decide) hT hO 1 9 e (by decide) (by decide) (by rw [hs]; decide) he (by omega) (by rw [hs]; decide) (by rw [hl]; decide)
end Go.Proofs.YtlgbgedkedddaaaDoor
