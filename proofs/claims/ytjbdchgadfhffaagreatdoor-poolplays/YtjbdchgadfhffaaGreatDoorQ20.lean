/- The reference's disk with its owner; its calls, in all cases. -/
import Derived.Test.YtjbdchgadfhffaaGreatDoorQ16
import Derived.Test.YtjbdchgadfhffaaGreatDoorQ18
import Derived.Test.YtjbdchgadfhffaaGreatDoorQ19
import Derived.Test.YtjbdchgadfhffaaGreatDoorQ17
namespace Go.Proofs.YtjbdchgadfhffaaGreatDoor
open Go.RowKit

/-- The reference's disk, all of whose blocks are of O. -/
def IsRO (w : World) (O : Nat → Prop) (p : Nat) (D : dSt) : Prop := ∃ hv wv, IsRef w 0 p hv wv D ∧ O p ∧ (∀ k, hv.ownBlock = some k → O k) ∧ ∀ k, wv.ownBlock = some k → O k
theorem IsRO.touch {w w' : World} {O T : Nat → Prop} {p : Nat} {D : dSt} (h : IsRO w O p D) (hT : Touch T w w') (hn : ∀ k, O k → ¬ T k) : IsRO w' O p D := by
  obtain ⟨hv, wv, hd, h1, h2, h3⟩ := h
  exact ⟨hv, wv, hd.kept hT (hn _ h1) (fun k hk => hn k (h2 k hk)) (fun k hk => hn k (h3 k hk)), h1, h2, h3⟩
theorem IsRO.adds {w w' : World} {O : Nat → Prop} {p : Nat} {D : dSt} (h : IsRO w O p D) (hT : Adds w w') : IsRO w' O p D := h.touch hT (fun _ _ => id)
theorem IsRO.mono {w : World} {O O' : Nat → Prop} {p : Nat} {D : dSt} (h : IsRO w O p D) (hn : ∀ k, O k → O' k) : IsRO w O' p D := by
  obtain ⟨hv, wv, hd, h1, h2, h3⟩ := h
  exact ⟨hv, wv, hd, hn _ h1, fun k hk => hn k (h2 k hk), fun k hk => hn k (h3 k hk)⟩
/-- What a call of the reference's disk leaves. -/
def PRo (w : World) (O : Nat → Prop) (p : Nat) (x : Int × dSt) (e : Ending) (w' : World) : Prop := e = .returned (.int .i64 x.1) ∧ Hid (∃ O', IsRO w' O' p x.2 ∧ Touch O w w' ∧ ∀ k, O' k → O k ∨ (w.heap.size ≤ k ∧ k < w'.heap.size))
theorem PRo.same {w w' : World} {O : Nat → Prop} {p : Nat} {D : dSt} (h : IsRO w O p D) (hw : w' = w) (z : Int) : PRo w O p (z, D) (.returned (.int .i64 z)) w' := by
  subst hw
  exact ⟨rfl, O, h, Touch.refl _ _, fun _ c => .inl c⟩
theorem ro_put {w : World} {O : Nat → Prop} {p : Nat} {D : dSt} {n : Nat} (h : IsRO w O p D) (hk : DOk D n) (hn : n ≤ 900) (i : Int) (hi : 0 ≤ i ∧ i < D.size) (bs : List UInt8) (hbs : bs.length = 256) :
    Calls Tryz.prog 61 #[Ptr p, .int .i64 i, Str bs] w (PRo w O p (if D.left = 0 then (10, D) else (0, D.wrote i bs))) := by
  have hD := h
  obtain ⟨hv, wv, hd, h1, h2, h3⟩ := h
  by_cases hon : D.left = 0
  · rw [if_pos hon]
    refine (rput_off 0 p hv wv D i bs w hd hi hbs hon).mono ?_
    rintro e w' ⟨rfl, hw⟩
    exact PRo.same hD hw 10
  · rw [if_neg hon]
    have := hk.waits
    have := hk.steps1
    refine (rput_ok 0 p hv wv D i bs w hd (Nat.zero_le _) (by omega) hi hbs hon hk.steps0 (by omega) hk.left0 hk.left1).mono ?_
    rintro e w' ⟨wv', rfl, hd', hT, hat⟩
    refine ⟨rfl, fun k => O k ∨ wv'.ownBlock = some k, ⟨hv, wv', hd', .inl h1, fun k hk => .inl (h2 k hk), fun k hk => .inr hk⟩, hT.mono (fun k _ c => by rcases c with rfl | c; exact h1; exact h3 k c), fun k hk' => ?_⟩
    rcases hk' with c | c
    · exact .inl c
    · rcases hat k c with c' | c'
      · exact .inl (h3 k c')
      · refine .inr ⟨c', ?_⟩
        obtain ⟨_, hc⟩ := own_type hd'.wait c
        exact (Array.getElem?_eq_some_iff.1 hc).1
theorem ro_sync {w : World} {O : Nat → Prop} {p : Nat} {D : dSt} {n : Nat} (h : IsRO w O p D) (hk : DOk D n) (hn : n ≤ 900) : Calls Tryz.prog 62 #[Ptr p] w (PRo w O p (if D.left = 0 then (10, D) else (0, D.synced))) := by
  have hD := h
  obtain ⟨hv, wv, hd, h1, h2, h3⟩ := h
  by_cases hon : D.left = 0
  · rw [if_pos hon]
    refine (rsync_off 0 p hv wv D w hd hon).mono ?_
    rintro e w' ⟨rfl, hw⟩
    exact PRo.same hD hw 10
  · rw [if_neg hon]
    have := hk.waits
    have := hk.steps1
    refine (rsync_ok 0 p hv wv D w hd (by omega) hon hk.steps0 (by omega) hk.left0 hk.left1).mono ?_
    rintro e w' ⟨rfl, hd', hT⟩
    exact ⟨rfl, O, ⟨hv, _, hd', h1, h2, fun k hk => by cases hk⟩, hT.mono (fun k _ c => by rcases c with rfl | c; exact h1; exact h2 k c), fun _ c => .inl c⟩
/-- What is cut, spoilt: answers and states. -/
def cutE (n : Int) : Int := if 0 ≤ n then 0 else 2
def cutD (D : dSt) (n : Int) : dSt := if 0 ≤ n then D.cut n else D
def spoilE (D : dSt) (i a : Int) : Int := if 0 ≤ i ∧ i < D.size ∧ 0 ≤ a ∧ a < 256 then 0 else 2
def spoilD (D : dSt) (i a : Int) (b : UInt8) : dSt := if 0 ≤ i ∧ i < D.size ∧ 0 ≤ a ∧ a < 256 then D.spoiled i a.toNat b else D
theorem ro_cut {w : World} {O : Nat → Prop} {p : Nat} {D : dSt} (h : IsRO w O p D) (n : Int) : Calls Tryz.prog 30 #[Ptr p, .int .i64 n] w (PRo w O p (cutE n, cutD D n)) := by
  have hD := h
  obtain ⟨hv, wv, hd, h1, h2, h3⟩ := h
  by_cases hn : 0 ≤ n
  · rw [cutE, cutD, if_pos hn, if_pos hn]
    refine (rcut_ok 0 p hv wv D n w hd hn).mono ?_
    rintro e w' ⟨rfl, hd', hT⟩
    exact ⟨rfl, O, ⟨hv, wv, hd', h1, h2, h3⟩, hT.mono (fun k _ c => by subst c; exact h1), fun _ c => .inl c⟩
  · rw [cutE, cutD, if_neg hn, if_neg hn]
    refine (rcut_bad p n w (by omega)).mono ?_
    rintro e w' ⟨rfl, hw⟩
    exact PRo.same hD hw 2
theorem ro_spoil {w : World} {O : Nat → Prop} {p : Nat} {D : dSt} {n : Nat} (h : IsRO w O p D) (hk : DOk D n) (hn : n ≤ 900) (i a : Int) (b : UInt8) : Calls Tryz.prog 34 #[Ptr p, .int .i64 i, .int .i64 a, B8 b] w (PRo w O p (spoilE D i a, spoilD D i a b)) := by
  have hD := h
  obtain ⟨hv, wv, hd, h1, h2, h3⟩ := h
  by_cases hi : 0 ≤ i ∧ i < D.size ∧ 0 ≤ a ∧ a < 256
  · rw [spoilE, spoilD, if_pos hi, if_pos hi]
    obtain ⟨m, rfl⟩ : ∃ m : Nat, i = (m : Int) := ⟨i.toNat, by omega⟩
    obtain ⟨c, rfl⟩ : ∃ c : Nat, a = (c : Int) := ⟨a.toNat, by omega⟩
    have := hk.waits
    refine (rspoil_ok 0 p hv wv D m c b w hd (by omega) hi.2.1 (by omega)).mono ?_
    rintro e w' ⟨rfl, hd', hT⟩
    exact ⟨rfl, O, ⟨hv, wv, hd', h1, h2, h3⟩, hT.mono (fun k _ c => by rcases c with c | c; exact h2 k c; exact h3 k c), fun _ c => .inl c⟩
  · rw [spoilE, spoilD, if_neg hi, if_neg hi]
    refine (rspoil_bad 0 p hv wv D i a (b.toNat : Int) w hd hi).mono ?_
    rintro e w' ⟨rfl, hw⟩
    exact PRo.same hD hw 2
/-- What the reference's Read tells. -/
def rdS (D : dSt) (i : Int) : List UInt8 := if D.left = 0 then [] else hasOf D.H D.W i
theorem ro_read {w : World} {O : Nat → Prop} {p : Nat} {D : dSt} {n : Nat} (h : IsRO w O p D) (hk : DOk D n) (hn : n ≤ 900) (i : Int) (hi : 0 ≤ i ∧ i < D.size) (s : List UInt8) (z : Int) (hs : s = rdS D i) (hz : z = if D.left = 0 then 10 else 0) : Calls Tryz.prog 40 #[Ptr p, .int .i64 i] w (Tells (.tuple #[Str s, .int .i64 z]) w) := by
  obtain ⟨hv, wv, hd, h1, h2, h3⟩ := h
  by_cases hon : D.left = 0
  · rw [hs, hz, rdS, if_pos hon, if_pos hon]
    exact rread_off 0 p hv wv D i w hd hi hon
  · rw [hs, hz, rdS, if_neg hon, if_neg hon]
    have := hk.waits
    exact rread_ok 0 p hv wv D i w hd (by omega) hi hon
end Go.Proofs.YtjbdchgadfhffaaGreatDoor
