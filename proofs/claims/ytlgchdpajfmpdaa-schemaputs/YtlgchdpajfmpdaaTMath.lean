/- Tables as bytes, and back: by definition. -/
import Derived.Test.YtlgchdpajfmpdaaState
import Derived.Test.YtlgchdpajfmpdaaSMath
namespace Go.Proofs.Ytlgchdpajfmpdaa.M

/-- A kind as a byte. -/
def kindB (k : Int) : UInt8 := UInt8.ofNat (k % 256).toNat
theorem kindB_nat (k : Int) : ((kindB k).toNat : Int) = k % 256 := by
  unfold kindB
  rw [ofNat_toNat _ (by omega)]; omega
/-- What a column is put as. -/
def colB (c : Col) : List UInt8 := (enc c.1.length ++ c.1) ++ [kindB c.2]
def colsB : List Col → List UInt8
  | [] => []
  | c :: r => colB c ++ colsB r
theorem colsB_append : ∀ r s : List Col, colsB (r ++ s) = colsB r ++ colsB s
  | [], _ => rfl
  | c :: r, s => by simp only [List.cons_append, colsB, colsB_append r s, List.append_assoc]
theorem colsB_take {r : List Col} {i : Nat} {c : Col} (h : r[i]? = some c) : colsB (r.take (i + 1)) = colsB (r.take i) ++ colB c := by
  rw [List.take_add_one, h, colsB_append]
  simp [colsB]
theorem len_colB {c : Col} (h : c.1.length ≤ 1000) : (colB c).length ≤ 1011 := by
  have := len_enc10 (n := c.1.length) (by omega)
  simp only [colB, List.length_append, List.length_cons, List.length_nil]; omega
theorem len_colsB : ∀ {r : List Col}, (∀ c ∈ r, c.1.length ≤ 1000) → (colsB r).length ≤ 1011 * r.length
  | [], _ => by simp [colsB]
  | c :: r, h => by
    have h1 := len_colB (h c (List.mem_cons_self ..))
    have h2 := len_colsB (r := r) (fun u hu => h u (List.mem_cons_of_mem _ hu))
    simp only [colsB, List.length_append, List.length_cons]; omega
/-- What a table is put as. -/
def putT (n : List UInt8) (cs : List Col) : List UInt8 := (enc n.length ++ n) ++ (enc cs.length ++ colsB cs)
theorem len_putT {n : List UInt8} {cs : List Col} (hn : n.length ≤ 1000) (hl : cs.length ≤ 1000) (hc : ∀ c ∈ cs, c.1.length ≤ 1000) : (putT n cs).length ≤ 1100000 := by
  have h1 := len_enc10 (n := n.length) (by omega)
  have h2 := len_enc10 (n := cs.length) (by omega)
  have h3 := len_colsB hc
  simp only [putT, List.length_append]
  omega
/-- A column that is read. -/
def colR (s : St) : Col × St := (((textR 20 s).1, ((fixedR 1 (textR 20 s).2).1 : Int)), (fixedR 1 (textR 20 s).2).2)
def colsR : Nat → St → List Col × St
  | 0, s => ([], s)
  | n + 1, s => ((colR s).1 :: (colsR n (colR s).2).1, (colsR n (colR s).2).2)
/-- A table that is read: its name, how many columns, these, what is left, what is wrong. -/
def tName (s : St) : List UInt8 := (textR 20 s).1
def tN (s : St) : Nat := (uintR 8 (textR 20 s).2).1
def tCols (s : St) : List Col := (colsR (tN s) (uintR 8 (textR 20 s).2).2).1
def tSt (s : St) : St := (colsR (tN s) (uintR 8 (textR 20 s).2).2).2
def tErr (s : St) : Nat := if (tSt s).e ≠ 0 then (tSt s).e else right (tName s) (tCols s)
theorem len_colsR : ∀ n s, (colsR n s).1.length = n
  | 0, _ => rfl
  | n + 1, s => by rw [colsR, List.length_cons, len_colsR n]
theorem textR_len (s : St) : (textR 20 s).1.length ≤ 20 := by
  unfold textR
  exact Nat.le_trans (takeR_len _ _) (uintR_lt _ _).2
theorem fixedR_byte (s : St) : (fixedR 1 s).1 < 256 := by
  unfold fixedR
  have h := takeR_len (clamp 1) s
  have h1 : clamp 1 = 1 := rfl
  rw [h1] at h
  have h2 := (fix_unfix _ (takeR (clamp 1) s).1 rfl).2
  have h3 : 256 ^ (takeR (clamp 1) s).1.length ≤ 256 ^ 1 := Nat.pow_le_pow_right (by decide) (by rw [h1]; exact h)
  omega
theorem colsR_name : ∀ n s, ∀ c ∈ (colsR n s).1, c.1.length ≤ 20
  | 0, _, c, h => by cases h
  | n + 1, s, c, h => by
    rw [colsR] at h
    rcases List.mem_cons.1 h with rfl | h
    · exact textR_len s
    · exact colsR_name n _ c h
theorem tN_le (s : St) : tN s ≤ 8 := (uintR_lt _ _).2
theorem tCols_len (s : St) : (tCols s).length ≤ 8 := by
  unfold tCols; rw [len_colsR]; exact tN_le s
/-- What a reader that has refused reads. -/
theorem uintR_e {most : Nat} {s : St} (h : (uintR most s).2.e = 0) : s.e = 0 ∧ s.l = enc (uintR most s).1 ++ (uintR most s).2.l := by
  by_cases h0 : s.e = 0
  · refine ⟨h0, ?_⟩
    cases hs : scan 0 s.l with
    | error e =>
      rw [uintR_err h0 hs] at h
      rcases scan_err _ _ _ hs with rfl | rfl <;> cases h
    | ok v =>
      obtain ⟨n, r⟩ := v
      by_cases hm : most < n
      · rw [uintR_big h0 hs hm] at h; cases h
      · rw [uintR_ok h0 hs hm]; exact (scan_one hs).1
  · rw [uintR_ref h0] at h; exact absurd h h0
theorem takeR_e {n : Nat} {s : St} (h : (takeR n s).2.e = 0) : s.e = 0 ∧ s.l = (takeR n s).1 ++ (takeR n s).2.l ∧ (takeR n s).1.length = n := by
  by_cases h0 : s.e = 0
  · refine ⟨h0, ?_⟩
    by_cases hl : s.l.length < n
    · rw [takeR_short h0 hl] at h; cases h
    · rw [takeR_ok h0 hl]; simp; omega
  · rw [takeR_ref h0] at h; exact absurd h h0
theorem textR_e {s : St} (h : (textR 20 s).2.e = 0) : s.e = 0 ∧ s.l = (enc (textR 20 s).1.length ++ (textR 20 s).1) ++ (textR 20 s).2.l := by
  unfold textR at h ⊢
  obtain ⟨h1, h2, h3⟩ := takeR_e h
  obtain ⟨h4, h5⟩ := uintR_e h1
  rw [h3]
  exact ⟨h4, by rw [h5, h2]; simp only [List.append_assoc]⟩
theorem unfix_one (c : UInt8) : unfix [c] = c.toNat := by simp [unfix]
theorem fixedR_e {s : St} (h : (fixedR 1 s).2.e = 0) : s.e = 0 ∧ s.l = [kindB ((fixedR 1 s).1 : Int)] ++ (fixedR 1 s).2.l := by
  unfold fixedR at h ⊢
  obtain ⟨h1, h2, h3⟩ := takeR_e h
  refine ⟨h1, ?_⟩
  obtain ⟨c, hc⟩ : ∃ c, (takeR (clamp 1) s).1 = [c] := by
    match hq : (takeR (clamp 1) s).1, h3 with
    | [c], _ => exact ⟨c, rfl⟩
  rw [hc] at h2 ⊢
  rw [h2]
  simp only [unfix_one]
  have : kindB (c.toNat : Int) = c := by
    unfold kindB
    have := c.toNat_lt
    rw [show ((c.toNat : Int) % 256).toNat = c.toNat by omega]
    simp
  rw [this]
theorem colR_e {s : St} (h : (colR s).2.e = 0) : s.e = 0 ∧ s.l = colB (colR s).1 ++ (colR s).2.l := by
  unfold colR at h ⊢
  obtain ⟨h1, h2⟩ := fixedR_e h
  obtain ⟨h3, h4⟩ := textR_e h1
  refine ⟨h3, ?_⟩
  rw [h4, h2, colB]
  simp only [List.append_assoc]
theorem colsR_e : ∀ {n : Nat} {s : St}, (colsR n s).2.e = 0 → s.e = 0 ∧ s.l = colsB (colsR n s).1 ++ (colsR n s).2.l
  | 0, s, h => ⟨h, rfl⟩
  | n + 1, s, h => by
    rw [colsR] at h ⊢
    obtain ⟨h1, h2⟩ := colsR_e h
    obtain ⟨h3, h4⟩ := colR_e h1
    refine ⟨h3, ?_⟩
    rw [h4, h2]
    simp only [colsB, List.append_assoc]
/-- What was taken is what is put. -/
theorem taken_put {s : St} (h : (tSt s).e = 0) : s.e = 0 ∧ s.l = putT (tName s) (tCols s) ++ (tSt s).l := by
  unfold tSt at h ⊢
  obtain ⟨h1, h2⟩ := colsR_e h
  obtain ⟨h3, h4⟩ := uintR_e h1
  obtain ⟨h5, h6⟩ := textR_e h3
  refine ⟨h5, ?_⟩
  rw [h6, h4, h2, putT]
  simp only [tName, tCols, tN, len_colsR, List.append_assoc]
/-- What is put is taken. -/
theorem textR_put {t r : List UInt8} (h : t.length ≤ 20) : textR 20 ⟨0, (enc t.length ++ t) ++ r⟩ = (t, ⟨0, r⟩) := by
  unfold textR
  have e : uintR (atLeast0 20) ⟨0, (enc t.length ++ t) ++ r⟩ = (t.length, ⟨0, t ++ r⟩) := by
    refine uintR_ok rfl ?_ (by rw [show atLeast0 20 = 20 from rfl]; omega)
    rw [List.append_assoc]
    exact scan_put _ (by omega) _
  rw [e, takeR_ok rfl (by simp)]
  simp
theorem fixedR_put {k : Int} {r : List UInt8} (h0 : 0 ≤ k) (h1 : k ≤ 255) : fixedR 1 ⟨0, [kindB k] ++ r⟩ = (k.toNat, ⟨0, r⟩) := by
  unfold fixedR
  rw [show clamp 1 = 1 from rfl, takeR_ok rfl (by simp)]
  have := kindB_nat k
  simp only [List.cons_append, List.nil_append, List.take_succ_cons, List.take_zero, List.drop_succ_cons, List.drop_zero, unfix_one]
  rw [show (kindB k).toNat = k.toNat by omega]
theorem colR_put {c : Col} {r : List UInt8} (h : c.1.length ≤ 20) (h0 : 0 ≤ c.2) (h1 : c.2 ≤ 255) : colR ⟨0, colB c ++ r⟩ = (c, ⟨0, r⟩) := by
  unfold colR
  rw [colB, List.append_assoc, textR_put h]
  simp only
  rw [fixedR_put h0 h1]
  simp only
  rw [show ((c.2.toNat : Nat) : Int) = c.2 by omega]
theorem colsR_put : ∀ {cs : List Col} {r : List UInt8}, (∀ c ∈ cs, c.1.length ≤ 20 ∧ 0 ≤ c.2 ∧ c.2 ≤ 255) → colsR cs.length ⟨0, colsB cs ++ r⟩ = (cs, ⟨0, r⟩)
  | [], _, _ => rfl
  | c :: cs, r, h => by
    have hc := h c (List.mem_cons_self ..)
    rw [List.length_cons, colsR, colsB, List.append_assoc, colR_put hc.1 hc.2.1 hc.2.2]
    simp only
    rw [colsR_put (fun d hd => h d (List.mem_cons_of_mem _ hd))]
theorem put_taken {n : List UInt8} {cs : List Col} {r : List UInt8} (hn : n.length ≤ 20) (hl : cs.length ≤ 8) (h : ∀ c ∈ cs, c.1.length ≤ 20 ∧ 0 ≤ c.2 ∧ c.2 ≤ 255) :
    tName ⟨0, putT n cs ++ r⟩ = n ∧ tCols ⟨0, putT n cs ++ r⟩ = cs ∧ tSt ⟨0, putT n cs ++ r⟩ = ⟨0, r⟩ := by
  have e1 : textR 20 ⟨0, putT n cs ++ r⟩ = (n, ⟨0, enc cs.length ++ (colsB cs ++ r)⟩) := by
    rw [putT, List.append_assoc, List.append_assoc (enc cs.length)]
    exact textR_put hn
  have e2 : uintR 8 ⟨0, enc cs.length ++ (colsB cs ++ r)⟩ = (cs.length, ⟨0, colsB cs ++ r⟩) := uintR_ok rfl (scan_put _ (by omega) _) (by omega)
  unfold tCols tSt tN tName
  rw [e1]
  simp only
  rw [e2]
  simp only
  rw [colsR_put h]
  exact ⟨trivial, rfl, rfl⟩
/-- Columns read one by one. -/
theorem colsR_step {n k : Nat} {s sk : St} {d : List Col} (h : colsR n s = (d ++ (colsR (n - k) sk).1, (colsR (n - k) sk).2)) (hk : k < n) : colsR n s = ((d ++ [(colR sk).1]) ++ (colsR (n - (k + 1)) (colR sk).2).1, (colsR (n - (k + 1)) (colR sk).2).2) := by
  rw [h, show n - k = (n - (k + 1)) + 1 by omega, colsR]
  simp
end Go.Proofs.Ytlgchdpajfmpdaa.M
