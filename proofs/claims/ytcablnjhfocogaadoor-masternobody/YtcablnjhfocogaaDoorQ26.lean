/- A master's slots by definition. -/
import Derived.Test.YtcablnjhfocogaaDoorQ11
namespace Go.Proofs.YtcablnjhfocogaaDoor
namespace U
open M
/-- The reader behind k numbers, and these. -/
def stU (s : St) : Nat → St
  | 0 => s
  | k + 1 => (uintR 18446744073709551615 (stU s k)).2
def lsU (s : St) : Nat → List Nat
  | 0 => []
  | k + 1 => lsU s k ++ [(uintR 18446744073709551615 (stU s k)).1]
def cnt (b : List UInt8) : Nat := (uintR 20 ⟨0, b⟩).1
def st0 (b : List UInt8) : St := (uintR 20 ⟨0, b⟩).2
/-- Fields as bytes. -/
def encs : List Nat → List UInt8
  | [] => []
  | n :: l => enc n ++ encs l
def pbytes (fs : List Nat) : List UInt8 := enc fs.length ++ encs fs
/-- What a slot has; nothing stands, if the epoch is 0. -/
structure Sl where
  ep : Nat
  fs : List Nat
def bad (b : List UInt8) : Prop := oErr b ≠ 0 ∨ oKind b ≠ 3 ∨ 1000000000 < oMark b
def slot (b : List UInt8) : Sl := if oErr b = 0 ∧ oKind b = 3 ∧ oMark b ≤ 1000000000 ∧ endE (stU (st0 (oBody b)) (cnt (oBody b))) = 0 then ⟨oMark b, lsU (st0 (oBody b)) (cnt (oBody b))⟩ else ⟨0, []⟩
set_option maxRecDepth 100000 in
theorem slot_no {b : List UInt8} (h : bad b) : slot b = ⟨0, []⟩ := by
  rw [slot, if_neg]
  rintro ⟨h1, h2, h3, _⟩
  rcases h with h | h | h
  · exact h h1
  · exact h h2
  · omega
set_option maxRecDepth 100000 in
theorem slot_end {b : List UInt8} (h : endE (stU (st0 (oBody b)) (cnt (oBody b))) ≠ 0) : slot b = ⟨0, []⟩ := by
  rw [slot, if_neg]
  rintro ⟨_, _, _, h4⟩
  exact h h4
set_option maxRecDepth 100000 in
theorem slot_yes {b : List UInt8} (h : ¬ bad b) (h2 : endE (stU (st0 (oBody b)) (cnt (oBody b))) = 0) : slot b = ⟨oMark b, lsU (st0 (oBody b)) (cnt (oBody b))⟩ := by
  unfold bad at h
  rw [slot, if_pos ⟨by omega, by
    by_cases h3 : oKind b = 3
    · exact h3
    · exact absurd (.inr (.inl h3)) h, by omega, h2⟩]
theorem lsU_len (s : St) : ∀ k, (lsU s k).length = k
  | 0 => rfl
  | k + 1 => by rw [lsU, List.length_append, lsU_len s k]; rfl
theorem lsU_lt (s : St) : ∀ k, ∀ n ∈ lsU s k, n < 18446744073709551616
  | 0, n, h => by cases h
  | k + 1, n, h => by
    rw [lsU] at h
    rcases List.mem_append.1 h with h | h
    · exact lsU_lt s k n h
    · rw [List.mem_singleton.1 h]; exact (uintR_lt _ _).1
theorem cnt_le (b : List UInt8) : cnt b ≤ 20 := (uintR_lt _ _).2
/-- Fields that may be. -/
structure Fit (fs : List Nat) : Prop where
  len : fs.length ≤ 20
  lt : ∀ n ∈ fs, n < 18446744073709551616
theorem Fit.nil : Fit [] := ⟨Nat.zero_le _, fun _ h => (by cases h)⟩
structure Sl.Ok (s : Sl) : Prop where
  ep : s.ep ≤ 1000000000
  fit : Fit s.fs
theorem ok_nil : Sl.Ok ⟨0, []⟩ := ⟨Nat.zero_le _, Fit.nil⟩
set_option maxRecDepth 100000 in
theorem slot_ok (b : List UInt8) : (slot b).Ok := by
  unfold slot
  split
  · rename_i h
    exact ⟨h.2.2.1, by show (lsU _ _).length ≤ 20; rw [lsU_len]; exact cnt_le _, lsU_lt _ _⟩
  · exact ok_nil
theorem encs_app : ∀ (a b : List Nat), encs (a ++ b) = encs a ++ encs b
  | [], b => rfl
  | r :: a, b => by rw [List.cons_append, encs, encs, encs_app a b, List.append_assoc]
set_option maxRecDepth 100000 in
theorem encs_one (n : Nat) : encs [n] = enc n := by simp [encs]
theorem encs_len : ∀ (l : List Nat), (∀ n ∈ l, n < 18446744073709551616) → (encs l).length ≤ 10 * l.length
  | [], _ => Nat.zero_le _
  | n :: l, h => by
    rw [encs, List.length_append, List.length_cons]
    have h1 := len_enc10 (h n List.mem_cons_self)
    have h2 := encs_len l (fun m hm => h m (List.mem_cons_of_mem _ hm))
    omega
set_option maxRecDepth 100000 in
theorem Fit.bytes {fs : List Nat} (h : Fit fs) : (pbytes fs).length ≤ 233 := by
  have h1 := encs_len fs h.lt
  have h2 := len_enc10 (n := fs.length) (by have := h.len; omega)
  have h3 := h.len
  rw [pbytes, List.length_append]; omega
theorem stU_put (l : List Nat) (h : ∀ n ∈ l, n < 18446744073709551616) : ∀ k, k ≤ l.length → stU ⟨0, encs l⟩ k = ⟨0, encs (l.drop k)⟩ ∧ lsU ⟨0, encs l⟩ k = l.take k
  | 0, _ => ⟨rfl, rfl⟩
  | k + 1, hk => by
    obtain ⟨h3, h4⟩ := stU_put l h k (by omega)
    have hu : uintR 18446744073709551615 ⟨0, enc (l[k]'(by omega)) ++ encs (l.drop (k + 1))⟩ = (l[k]'(by omega), ⟨0, encs (l.drop (k + 1))⟩) := uintR_ok rfl (scan_put _ (h _ (List.getElem_mem _)) _) (by have := h _ (List.getElem_mem (l := l) (n := k) (by omega)); omega)
    rw [stU, lsU, h3, h4, List.drop_eq_getElem_cons (by omega), encs, hu]
    refine ⟨rfl, ?_⟩
    rw [List.take_succ_eq_append_getElem (by omega)]
set_option maxRecDepth 100000 in
/-- What was put is read. -/
theorem slot_put {e : Nat} {fs : List Nat} (h0 : 0 < e) (h1 : e ≤ 1000000000) (h : Fit fs) : slot (sector e 3 (pbytes fs)) = ⟨e, fs⟩ := by
  obtain ⟨o1, o2, o3, o4⟩ := sector_opens e 3 (pbytes fs) h0 (by omega) (by decide) h.bytes
  have hu : uintR 20 ⟨0, pbytes fs⟩ = (fs.length, ⟨0, encs fs⟩) := uintR_ok rfl (scan_put _ (by have := h.len; omega) _) (by have := h.len; omega)
  obtain ⟨h3, h4⟩ := stU_put fs h.lt fs.length (Nat.le_refl _)
  have hs : stU (st0 (pbytes fs)) (cnt (pbytes fs)) = ⟨0, []⟩ := by
    rw [st0, cnt, hu]
    simp only
    rw [h3, List.drop_length]; rfl
  rw [slot, if_pos ⟨o1, o3, by rw [o2]; exact h1, by rw [o4, hs]; rfl⟩, o2, o4, st0, cnt, hu]
  simp only
  rw [h4, List.take_length]
theorem slot_zero : slot (List.replicate 256 0) = ⟨0, []⟩ := slot_no (.inl (by rw [noughts_err]; decide))
/-- A master: where it lies, and what its slots have. -/
structure MS where
  at_ : Nat
  a : Sl
  b : Sl
structure MS.Ok (m : MS) : Prop where
  at_ : m.at_ ≤ 4096
  a : m.a.Ok
  b : m.b.Ok
def MS.which (m : MS) : Int := if m.a.ep = 0 ∧ m.b.ep = 0 then -1 else if m.a.ep < m.b.ep then 1 else 0
def MS.lat (m : MS) : Sl := if m.a.ep = 0 ∧ m.b.ep = 0 then ⟨0, []⟩ else if m.a.ep < m.b.ep then m.b else m.a
def MS.other (m : MS) : Nat := if m.which = 0 then 1 else 0
set_option maxRecDepth 100000 in
theorem MS.Ok.lat {m : MS} (h : m.Ok) : m.lat.Ok := by
  unfold MS.lat
  split
  · exact ok_nil
  · split
    · exact h.b
    · exact h.a
def MS.put (m : MS) (i : Nat) (s : Sl) : MS := if i = 0 then { m with a := s } else { m with b := s }
end U
end Go.Proofs.YtcablnjhfocogaaDoor
