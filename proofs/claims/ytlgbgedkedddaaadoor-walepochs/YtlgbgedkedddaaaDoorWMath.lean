/- A log's groups by definition: their bytes, their pieces, and which of them stand. -/
import Derived.Test.YtlgbgedkedddaaaDoorSMath
import Derived.Test.YtlgbgedkedddaaaDoorState
namespace Go.Proofs.YtlgbgedkedddaaaDoor
namespace W
open M

/-- How many sectors a group of n bytes has. -/
def secs (n : Nat) : Nat := (4 + n + 232) / 233
def text (r : List UInt8) : List UInt8 := enc r.length ++ r
def texts : List (List UInt8) → List UInt8
  | [] => []
  | r :: l => text r ++ texts l
/-- A group's bytes. -/
def gbytes (l : List (List UInt8)) : List UInt8 := enc l.length ++ texts l
/-- With how many they are ahead. -/
def full (g : List UInt8) : List UInt8 := fix g.length 4 ++ g
def piece (b : List UInt8) (j : Nat) : List UInt8 := (b.drop (233 * j)).take 233
def mark (e i : Nat) : Nat := e * 16777216 + i + 1
def kind (n : Nat) : UInt8 := if n = 0 then 1 else 2
/-- How many bytes all pieces of a group have, as the first ones tell. -/
def need (b : List UInt8) : Nat := 4 + (fixedR 4 ⟨0, b.take 4⟩).1
/-- The reader behind k texts, and these. -/
def stN (most : Int) (s : St) : Nat → St
  | 0 => s
  | k + 1 => (textR most (stN most s k)).2
def lsN (most : Int) (s : St) : Nat → List (List UInt8)
  | 0 => []
  | k + 1 => lsN most s k ++ [(textR most (stN most s k)).1]
/-- A group's records. -/
def recsM (most : Int) (g : List UInt8) : List (List UInt8) :=
  if endE (stN most (uintR g.length ⟨0, g⟩).2 (uintR g.length ⟨0, g⟩).1) = 0 then lsN most (uintR g.length ⟨0, g⟩).2 (uintR g.length ⟨0, g⟩).1 else []
def recs (g : List UInt8) : List (List UInt8) := recsM (g.length : Int) g

theorem texts_app : ∀ (a b : List (List UInt8)), texts (a ++ b) = texts a ++ texts b
  | [], b => rfl
  | r :: a, b => by rw [List.cons_append, texts, texts, texts_app a b, List.append_assoc]
theorem texts_one (r : List UInt8) : texts [r] = text r := by simp [texts]
theorem lsN_len (most : Int) (s : St) : ∀ k, (lsN most s k).length = k
  | 0 => rfl
  | k + 1 => by rw [lsN, List.length_append, lsN_len most s k]; rfl
theorem enc_pos (n : Nat) : 0 < (enc n).length := by
  by_cases h : n < 128
  · rw [enc_small h]; simp
  · rw [enc_big h]; simp
theorem text_pos (r : List UInt8) : 0 < (text r).length := by rw [text, List.length_append]; have := enc_pos r.length; omega
theorem texts_len : ∀ l : List (List UInt8), l.length ≤ (texts l).length
  | [] => Nat.zero_le _
  | r :: l => by rw [texts, List.length_append, List.length_cons]; have := texts_len l; have := text_pos r; omega
theorem texts_mem {r : List UInt8} : ∀ {l : List (List UInt8)}, r ∈ l → r.length ≤ (texts l).length
  | x :: l, h => by
    rw [texts, List.length_append]
    rcases List.mem_cons.1 h with rfl | h
    · rw [text, List.length_append]; omega
    · have := texts_mem h; omega

theorem textR_text (most : Int) (r t : List UInt8) (h : (r.length : Int) ≤ most) (h2 : r.length < 18446744073709551616) : textR most ⟨0, text r ++ t⟩ = (r, ⟨0, t⟩) := by
  have hs : scan 0 (text r ++ t) = .ok (r.length, r ++ t) := by rw [text, List.append_assoc]; exact scan_put _ h2 _
  have hu : uintR (atLeast0 most) ⟨0, text r ++ t⟩ = (r.length, ⟨0, r ++ t⟩) := uintR_ok rfl hs (by unfold atLeast0; split <;> omega)
  rw [textR, hu]
  rw [takeR_ok rfl (by simp)]
  simp
theorem uintR_good {most : Nat} {s : St} (h : (uintR most s).2.e = 0) : s.e = 0 ∧ s.l = enc (uintR most s).1 ++ (uintR most s).2.l := by
  by_cases he : s.e = 0
  · cases hs : scan 0 s.l with
    | error e =>
      rw [uintR_err he hs] at h
      have := scan_err _ _ _ hs
      simp at h; omega
    | ok x =>
      obtain ⟨n, r⟩ := x
      by_cases hm : most < n
      · rw [uintR_big he hs hm] at h; simp at h
      · rw [uintR_ok he hs hm]
        exact ⟨he, (scan_one hs).1⟩
  · rw [uintR_ref he] at h; exact absurd h he
theorem takeR_good {n : Nat} {s : St} (h : (takeR n s).2.e = 0) : s.e = 0 ∧ s.l = (takeR n s).1 ++ (takeR n s).2.l ∧ (takeR n s).1.length = n := by
  by_cases he : s.e = 0
  · by_cases hl : s.l.length < n
    · rw [takeR_short he hl] at h; simp at h
    · rw [takeR_ok he hl]
      exact ⟨he, by simp, by simp; omega⟩
  · rw [takeR_ref he] at h; exact absurd h he
theorem textR_good {most : Int} {s : St} (h : (textR most s).2.e = 0) : s.e = 0 ∧ s.l = text (textR most s).1 ++ (textR most s).2.l := by
  unfold textR at h ⊢
  obtain ⟨h1, h2, h3⟩ := takeR_good h
  obtain ⟨h4, h5⟩ := uintR_good h1
  refine ⟨h4, ?_⟩
  rw [text, h3, List.append_assoc, ← h2]; exact h5
theorem stN_good {most : Int} {s : St} : ∀ k, (stN most s k).e = 0 → s.e = 0 ∧ s.l = texts (lsN most s k) ++ (stN most s k).l
  | 0, h => ⟨h, by simp [texts, lsN, stN]⟩
  | k + 1, h => by
    obtain ⟨h1, h2⟩ := textR_good (most := most) (s := stN most s k) h
    obtain ⟨h3, h4⟩ := stN_good k h1
    refine ⟨h3, ?_⟩
    rw [lsN, texts_app, texts_one, List.append_assoc, h4, h2]
    rfl
theorem stN_put (most : Int) (l : List (List UInt8)) (t : List UInt8) (h : ((texts l).length : Int) ≤ most) (h2 : most < 18446744073709551616) : ∀ k, k ≤ l.length → stN most ⟨0, texts l ++ t⟩ k = ⟨0, texts (l.drop k) ++ t⟩ ∧ lsN most ⟨0, texts l ++ t⟩ k = l.take k
  | 0, _ => ⟨rfl, rfl⟩
  | k + 1, hk => by
    obtain ⟨h3, h4⟩ := stN_put most l t h h2 k (by omega)
    have hr : (l[k]'(by omega)).length ≤ (texts l).length := texts_mem (List.getElem_mem _)
    have ht := textR_text most (l[k]'(by omega)) (texts (l.drop (k + 1)) ++ t) (by omega) (by omega)
    rw [stN, lsN, h3, h4, List.drop_eq_getElem_cons (by omega), texts, List.append_assoc, ht]
    refine ⟨rfl, ?_⟩
    rw [List.take_succ_eq_append_getElem (by omega)]
theorem endE_zero {s : St} (h : endE s = 0) : s.e = 0 ∧ s.l = [] := by
  unfold endE at h
  split at h
  · cases h
  · exact ⟨h, List.eq_nil_of_length_eq_zero (by omega)⟩
/-- What was put is read. -/
theorem recsM_put (most : Int) (l : List (List UInt8)) (hm : ((gbytes l).length : Int) ≤ most) (h2 : most < 18446744073709551616) : recsM most (gbytes l) = l := by
  have hg : (gbytes l).length = (enc l.length).length + (texts l).length := by rw [gbytes, List.length_append]
  have hl := texts_len l
  have hu : uintR (gbytes l).length ⟨0, gbytes l⟩ = (l.length, ⟨0, texts l⟩) := uintR_ok rfl (scan_put _ (by omega) _) (by omega)
  have h := stN_put most l [] (by omega) h2 l.length (Nat.le_refl _)
  rw [List.append_nil] at h
  unfold recsM
  rw [hu]
  simp only [h.1, h.2]
  rw [if_pos (by simp [endE, texts])]
  simp
theorem recs_put (l : List (List UInt8)) (h2 : (gbytes l).length < 1000000000) : recs (gbytes l) = l := recsM_put _ l (Int.le_refl _) (by omega)
/-- What is read was put so. -/
theorem recsM_one {most : Int} {g : List UInt8} (h : recsM most g ≠ []) : g = gbytes (recsM most g) := by
  unfold recsM at h ⊢
  split at h
  · rename_i h0
    rw [if_pos h0]
    obtain ⟨h1, h2⟩ := endE_zero h0
    obtain ⟨h3, h4⟩ := stN_good _ h1
    obtain ⟨_, h6⟩ := uintR_good h3
    rw [gbytes, lsN_len]
    rw [h2, List.append_nil] at h4
    rw [← h4]; exact h6
  · exact absurd rfl h
theorem recs_one {g : List UInt8} (h : recs g ≠ []) : g = gbytes (recs g) := recsM_one h
/-- The bound of a text is none where all bytes are within it. -/
theorem recsM_most {m1 m2 : Int} {g : List UInt8} (h1 : (g.length : Int) ≤ m1) (h2 : (g.length : Int) ≤ m2) (h3 : m1 < 18446744073709551616) (h4 : m2 < 18446744073709551616) : recsM m1 g = recsM m2 g := by
  by_cases a : recsM m1 g = []
  · by_cases b : recsM m2 g = []
    · rw [a, b]
    · have e := recsM_one b
      have := recsM_put m1 (recsM m2 g) (by rw [← e]; exact h1) h3
      rw [← e] at this; exact this
  · have e := recsM_one a
    have := recsM_put m2 (recsM m1 g) (by rw [← e]; exact h2) h4
    rw [← e] at this; exact this.symm

/-- The groups that stand: n sectors are left, from i on; b: the pieces of a group that is not whole yet. -/
def find (e : Nat) (sec : Nat → List UInt8) : Nat → Nat → List UInt8 → List (List UInt8) → Nat → List (List UInt8) × Nat
  | 0, _, _, gs, u => (gs, u)
  | n + 1, i, b, gs, u =>
    if oErr (sec i) ≠ 0 ∨ oMark (sec i) ≠ mark e i ∨ oKind (sec i) ≠ kind b.length then (gs, u)
    else if (b ++ oBody (sec i)).length < need (b ++ oBody (sec i)) ∧ (oBody (sec i)).length = 233 then find e sec n (i + 1) (b ++ oBody (sec i)) gs u
    else if (b ++ oBody (sec i)).length ≠ need (b ++ oBody (sec i)) ∨ recs ((b ++ oBody (sec i)).drop 4) = [] then (gs, u)
    else find e sec n (i + 1) [] (gs ++ [(b ++ oBody (sec i)).drop 4]) (i + 1)

/-- A piece's sector. -/
def laid (e at_ : Nat) (g : List UInt8) (j : Nat) : List UInt8 := sector (mark e (at_ + j)) (kind j) (piece (full g) j)
/-- No piece of that epoch there. -/
def Bad (e i : Nat) (s : List UInt8) : Prop := oErr s ≠ 0 ∨ oMark s ≠ mark e i

theorem kind_ne (n : Nat) : kind n ≠ 0 := by unfold kind; split <;> decide
theorem len_full (g : List UInt8) : (full g).length = 4 + g.length := by rw [full, List.length_append, len_fix]
theorem piece_le (b : List UInt8) (j : Nat) : (piece b j).length ≤ 233 := by unfold piece; rw [List.length_take]; omega
theorem laid_opens {e at_ : Nat} {g : List UInt8} {j : Nat} (he : e ≤ 1000000000) (ha : at_ + j < 10000) :
    oErr (laid e at_ g j) = 0 ∧ oMark (laid e at_ g j) = mark e (at_ + j) ∧ oKind (laid e at_ g j) = kind j ∧ oBody (laid e at_ g j) = piece (full g) j :=
  sector_opens _ _ _ (by unfold mark; omega) (by unfold mark; omega) (kind_ne j) (piece_le _ _)
theorem len_laid (e at_ : Nat) (g : List UInt8) (j : Nat) : (laid e at_ g j).length = 256 := len_sector _ _ _ (piece_le _ _)
theorem find_bad {e : Nat} {sec : Nat → List UInt8} {i : Nat} (h : Bad e i (sec i)) (b : List UInt8) (gs : List (List UInt8)) (u : Nat) : ∀ n, find e sec n i b gs u = (gs, u)
  | 0 => rfl
  | n + 1 => by
    rw [find, if_pos]
    rcases h with h | h
    · exact .inl h
    · exact .inr (.inl h)
theorem take_full (g : List UInt8) (k : Nat) (h : 4 ≤ k) : ((full g).take k).take 4 = fix g.length 4 := by
  rw [List.take_take, Nat.min_eq_left h, full, List.take_left' (len_fix 4 _)]
theorem need_full (g : List UInt8) (k : Nat) (h : 4 ≤ k) (hg : g.length < 4294967296) : need ((full g).take k) = 4 + g.length := by
  unfold need
  rw [take_full g k h, fixedR, show clamp 4 = 4 from rfl, takeR_ok rfl (by rw [len_fix]; decide)]
  simp only
  rw [List.take_of_length_le (by rw [len_fix]; exact Nat.le_refl _), unfix_fix, Nat.mod_eq_of_lt (by omega)]
theorem take_piece (b : List UInt8) (j : Nat) : b.take (233 * j) ++ piece b j = b.take (233 * (j + 1)) := by
  rw [piece, show 233 * (j + 1) = 233 * j + 233 by omega, List.take_add]
/-- One piece of a group. -/
theorem find_step {e at_ : Nat} {g : List UInt8} {sec : Nat → List UInt8} {j : Nat} (he : e ≤ 1000000000) (hg : g.length < 4294967296) (hr : recs g ≠ []) (hj : j < secs g.length) (ha : at_ + j < 10000) (hs : sec (at_ + j) = laid e at_ g j) (gs : List (List UInt8)) (u c : Nat) :
    find e sec (c + 1) (at_ + j) ((full g).take (233 * j)) gs u = if j + 1 = secs g.length then find e sec c (at_ + j + 1) [] (gs ++ [g]) (at_ + j + 1) else find e sec c (at_ + j + 1) ((full g).take (233 * (j + 1))) gs u := by
  obtain ⟨o1, o2, o3, o4⟩ := laid_opens (g := g) he ha
  have hf := len_full g
  unfold secs at hj ⊢
  have hb : ((full g).take (233 * j)).length = 233 * j := by rw [List.length_take]; omega
  have hp : (piece (full g) j).length = min 233 (4 + g.length - 233 * j) := by rw [piece, List.length_take, List.length_drop, hf]
  rw [find, hs, o1, o2, o3, o4, hb, take_piece, need_full g _ (by omega) hg, List.length_take, hf, hp]
  rw [if_neg (by rw [show kind (233 * j) = kind j by unfold kind; by_cases h : j = 0 <;> simp [h] <;> omega]; simp)]
  by_cases hl : j + 1 = (4 + g.length + 232) / 233
  · rw [if_pos hl, if_neg (by omega)]
    have e1 : (full g).take (233 * (j + 1)) = full g := List.take_of_length_le (by omega)
    have e2 : (full g).drop 4 = g := by rw [full, List.drop_left' (len_fix 4 _)]
    rw [e1, e2, if_neg (by simp only [not_or]; exact ⟨by omega, hr⟩)]
  · rw [if_neg hl, if_pos (by omega)]
/-- A group that is whole. -/
theorem find_whole {e at_ : Nat} {g : List UInt8} {sec : Nat → List UInt8} (he : e ≤ 1000000000) (hg : g.length < 4294967296) (hr : recs g ≠ []) (ha : at_ + secs g.length ≤ 10000) (hs : ∀ j, j < secs g.length → sec (at_ + j) = laid e at_ g j) (gs : List (List UInt8)) (u c : Nat) :
    ∀ d j, j + d + 1 = secs g.length → find e sec (c + d + 1) (at_ + j) ((full g).take (233 * j)) gs u = find e sec c (at_ + secs g.length) [] (gs ++ [g]) (at_ + secs g.length)
  | 0, j, h => by
    rw [show c + 0 + 1 = c + 1 from rfl, find_step he hg hr (by omega) (by omega) (hs j (by omega)), if_pos (by omega), ← h]; rfl
  | d + 1, j, h => by
    rw [show c + (d + 1) + 1 = (c + d + 1) + 1 by omega, find_step he hg hr (by omega) (by omega) (hs j (by omega)), if_neg (by omega)]
    exact find_whole he hg hr ha hs gs u c d (j + 1) (by omega)
/-- A group that is not. -/
theorem find_part {e at_ : Nat} {g : List UInt8} {sec : Nat → List UInt8} {k : Nat} (he : e ≤ 1000000000) (hg : g.length < 4294967296) (hr : recs g ≠ []) (ha : at_ + secs g.length ≤ 10000) (hk : k < secs g.length) (hs : ∀ j, j < k → sec (at_ + j) = laid e at_ g j) (hb : Bad e (at_ + k) (sec (at_ + k))) (gs : List (List UInt8)) (u : Nat) :
    ∀ d j c, j + d = k → find e sec c (at_ + j) ((full g).take (233 * j)) gs u = (gs, u)
  | 0, j, c, h => by
    obtain rfl : j = k := h
    exact find_bad hb _ gs u c
  | d + 1, j, 0, _ => rfl
  | d + 1, j, c + 1, h => by
    rw [find_step he hg hr (by omega) (by omega) (hs j (by omega)), if_neg (by omega)]
    exact find_part he hg hr ha hk hs hb gs u d (j + 1) c (by omega)
theorem secs_pos (n : Nat) : 0 < secs n := by unfold secs; omega

/-- How many sectors groups have. -/
def usedOf : List (List UInt8) → Nat
  | [] => 0
  | g :: G => secs g.length + usedOf G
theorem usedOf_app : ∀ (a b : List (List UInt8)), usedOf (a ++ b) = usedOf a + usedOf b
  | [], b => by simp [usedOf]
  | r :: a, b => by rw [List.cons_append, usedOf, usedOf, usedOf_app a b]; omega
/-- Groups lie one behind the other. -/
def Lay (e : Nat) (sec : Nat → List UInt8) : Nat → List (List UInt8) → Prop
  | _, [] => True
  | at_, g :: G => (∀ j, j < secs g.length → sec (at_ + j) = laid e at_ g j) ∧ Lay e sec (at_ + secs g.length) G
theorem Lay.app {e : Nat} {sec : Nat → List UInt8} : ∀ {at_ : Nat} {G : List (List UInt8)} {g : List UInt8}, Lay e sec at_ G → (∀ j, j < secs g.length → sec (at_ + usedOf G + j) = laid e (at_ + usedOf G) g j) → Lay e sec at_ (G ++ [g])
  | at_, [], g, _, h => ⟨by simpa [usedOf] using h, trivial⟩
  | at_, x :: G, g, h0, h => ⟨h0.1, Lay.app h0.2 (by rw [usedOf, ← Nat.add_assoc] at h; exact h)⟩
/-- A group may stand. -/
def Good (g : List UInt8) : Prop := g.length < 4294967296 ∧ recs g ≠ []
theorem find_lay {e : Nat} {sec : Nat → List UInt8} (he : e ≤ 1000000000) : ∀ (G : List (List UInt8)) (at_ c : Nat) (gs : List (List UInt8)), (∀ g ∈ G, Good g) → Lay e sec at_ G → at_ + usedOf G ≤ 10000 →
    find e sec (c + usedOf G) at_ [] gs at_ = find e sec c (at_ + usedOf G) [] (gs ++ G) (at_ + usedOf G)
  | [], at_, c, gs, _, _, _ => by simp [usedOf]
  | g :: G, at_, c, gs, h1, h2, h3 => by
    have hp := secs_pos g.length
    rw [usedOf] at h3 ⊢
    have hg := h1 g List.mem_cons_self
    have := find_whole (sec := sec) he hg.1 hg.2 (by omega) h2.1 gs at_ (c + usedOf G) (secs g.length - 1) 0 (by omega)
    rw [show c + usedOf G + (secs g.length - 1) + 1 = c + (secs g.length + usedOf G) by omega, Nat.mul_zero, List.take_zero, Nat.add_zero] at this
    rw [this, find_lay he G (at_ + secs g.length) c (gs ++ [g]) (fun x hx => h1 x (List.mem_cons_of_mem _ hx)) h2.2 (by omega), List.append_assoc, Nat.add_assoc]
    rfl
/-- Epochs are told by their marks. -/
theorem laid_bad {e f at_ : Nat} {g : List UInt8} {j : Nat} (he : e ≤ 1000000000) (ha : at_ + j < 10000) (hf : f ≠ e) : Bad f (at_ + j) (laid e at_ g j) := by
  refine .inr ?_
  rw [(laid_opens he ha).2.1]
  unfold mark; omega
theorem zeros_bad (e i : Nat) : Bad e i (List.replicate 256 0) := .inl (by rw [noughts_err]; decide)
end W
end Go.Proofs.YtlgbgedkedddaaaDoor
