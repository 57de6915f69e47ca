/- Three rows, sorted, as the chapter has them. -/
import Derived.Test.YtkkmbpcmkhikkaaSmall2
namespace Go.Proofs.Ytkkmbpcmkhikkaa
open Go.RowKit

/-- A row of one Int in block g. -/
def o1 (g : Nat) (n : Int) : Hd := ⟨some ⟨g, 0, none⟩, 1, [num n]⟩
theorem by21 : M.bycmp [(0, true)] [num 2] [num 1] = -1 := by decide
theorem hat_lit {w : World} {g : Nat} {l : List Hd} {fr : Nat × Nat} (h : w.heap[g]? = some (.cells (SH l).toArray 30 fr)) : HAt w (some ⟨g, 0, none⟩) l := by
  apply CAt.rows
  intro j u hj
  refine ⟨g, 0, rfl, ?_⟩
  rw [Nat.zero_add, cellOf h j]
  simpa using hj
theorem kat_one {w : World} {g : Nat} {p : Int} {d : Bool} {fr : Nat × Nat} (h : w.heap[g]? = some (.cells #[.int .i64 p, .bool d] 44 fr)) : KAt w (some ⟨g, 0, none⟩) [(p, d)] := by
  intro j k hj
  have hlt := (List.getElem?_eq_some_iff.1 hj).1
  obtain rfl : j = 0 := by simp at hlt; omega
  obtain rfl : (p, d) = k := by simpa using hj
  exact ⟨g, 0, rfl, by rw [cellOf h]; rfl, by rw [cellOf h]; rfl⟩
theorem rowSort_at {K L : Nat} (ka : Option Addr) (kcap : Nat) (o : List (Int × Bool)) (a : Option Addr) (cap : Nat) (l : List Hd) (w : World) (hK : o.length = K) (hL : l.length = L) (hk : KAt w ka o) (hol : o.length ≤ 1000000) (hA : HAt w a l) (hcap : a = none → cap = 0) (hl : l.length ≤ 1000000) (hr : ∀ x ∈ l, IsRow w x) :
    Calls Try.prog 8 #[.slice a L cap, .slice ka K kcap] w (PSorted w o l) := by
  subst hK hL
  exact rowSort_any ka kcap o a cap l w hk hol hA hcap hl hr
/-- A row's first number. -/
def fst (u : Hd) : Nat := match u.r with | [] => 0 | v :: _ => v.n.toNat
theorem three_sorted {w w' : World} {a : Option Addr} {cap g1 g2 g3 : Nat} (h : ∃ m n : List Hd, M.Mrg (ltc (M.bycmp [(0, true)])) 0 [o1 g1 2, o1 g2 1, o1 g3 2].length [o1 g1 2, o1 g2 1, o1 g3 2] m ∧ n.length = m.length ∧ (∀ i : Nat, i < m.length → n[i]!.r = m[i]!.r) ∧ New w a cap w' n ∧ Adds w w') :
    ∃ g b0 o0 c0 b2 o2 c2, a = some ⟨g, 0, none⟩ ∧ ∀ w'', Adds w' w'' → w''.cell? ⟨g, 0, none⟩ = some (.slice (some ⟨b0, o0, none⟩) 1 c0) ∧ w''.cell? ⟨g, 2, none⟩ = some (.slice (some ⟨b2, o2, none⟩) 1 c2) ∧ w''.cell? ⟨b0, o0 + 1, none⟩ = some (.int .i64 2) ∧ w''.cell? ⟨b2, o2 + 1, none⟩ = some (.int .i64 1) := by
  obtain ⟨m, n, h1, h2, h3, h4, _⟩ := h
  have hml : m.length = 3 := h1.mv.len
  have key : m[0]!.r = [num 2] ∧ m[2]!.r = [num 1] := by
    obtain ⟨x, y, z, rfl⟩ : ∃ x y z, m = [x, y, z] := by
      match m, hml with
      | [x, y, z], _ => exact ⟨x, y, z, rfl⟩
    have hp := h1.mv.perm
    have mem : ∀ u ∈ [x, y, z], u.r = [num 2] ∨ u.r = [num 1] := by
      intro u hu
      have := hp.mem_iff.1 hu
      simp only [List.mem_cons, List.not_mem_nil, or_false] at this
      rcases this with rfl | rfl | rfl
      · exact .inl rfl
      · exact .inr rfl
      · exact .inl rfl
    have cnt := (hp.map (fun u : Hd => fst u)).sum_nat
    have srt := h1.srt
    have s1 : ltc (M.bycmp [(0, true)]) y x = false := srt 0 1 (by omega) (by omega) (by simp)
    have s2 : ltc (M.bycmp [(0, true)]) z y = false := srt 1 2 (by omega) (by omega) (by simp)
    have no : ∀ u v : Hd, u.r = [num 2] → v.r = [num 1] → ltc (M.bycmp [(0, true)]) u v = true := by
      intro u v hu hv
      unfold ltc
      rw [hu, hv, by21]; rfl
    have f2 : ∀ u : Hd, u.r = [num 2] → fst u = 2 := by intro u hu; unfold fst; rw [hu]; rfl
    have f1 : ∀ u : Hd, u.r = [num 1] → fst u = 1 := by intro u hu; unfold fst; rw [hu]; rfl
    have e5 : (List.map (fun u : Hd => fst u) [o1 g1 2, o1 g2 1, o1 g3 2]).sum = 5 := by rfl
    rw [e5] at cnt
    simp only [List.map_cons, List.map_nil, List.sum_cons, List.sum_nil] at cnt
    show x.r = [num 2] ∧ z.r = [num 1]
    rcases mem x (by simp) with hx | hx <;> rcases mem y (by simp) with hy | hy <;> rcases mem z (by simp) with hz | hz
    · rw [f2 x hx, f2 y hy, f2 z hz] at cnt; omega
    · exact ⟨hx, hz⟩
    · rw [no z y hz hy] at s2; cases s2
    · exact ⟨hx, hz⟩
    · rw [no y x hy hx] at s1; cases s1
    · rw [no y x hy hx] at s1; cases s1
    · rw [no z y hz hy] at s2; cases s2
    · rw [f1 x hx, f1 y hy, f1 z hz] at cnt; omega
  have hn3 : n.length = 3 := by omega
  rcases h4 with ⟨_, _, rfl⟩ | ⟨g, rfl, _, _, _, hD⟩
  · cases hn3
  · have k0 := h3 0 (by omega)
    have k2 := h3 2 (by omega)
    rw [key.1] at k0
    rw [key.2] at k2
    have r0 := hD.row (i := 0) (by omega)
    have r2 := hD.row (i := 2) (by omega)
    have a0 := r0.at_
    have a2 := r2.at_
    rw [k0] at a0
    rw [k2] at a2
    obtain ⟨b0, o0, e0, u0⟩ := a0.get (i := 0) (v := num 2) rfl
    obtain ⟨b2, o2, e2, u2⟩ := a2.get (i := 0) (v := num 1) rfl
    refine ⟨g, b0, o0, n[0]!.cap, b2, o2, n[2]!.cap, rfl, fun w'' hA => ⟨?_, ?_, ?_, ?_⟩⟩
    · have := (hD.adds hA).cell 0 (by omega)
      rw [e0, k0] at this; exact this
    · have := (hD.adds hA).cell 2 (by omega)
      rw [e2, k2] at this; exact this
    · have := (u0 w'' hA).2.1
      rwa [Nat.zero_mul, Nat.add_zero] at this
    · have := (u2 w'' hA).2.1
      rwa [Nat.zero_mul, Nat.add_zero] at this
end Go.Proofs.Ytkkmbpcmkhikkaa
