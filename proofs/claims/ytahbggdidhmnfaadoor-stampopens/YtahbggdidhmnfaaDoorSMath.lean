/- A stamped sector by definition; what follows of it. -/
import Derived.Test.YtahbggdidhmnfaaDoorBursts
import Derived.Test.YtahbggdidhmnfaaDoorRPut
namespace Go.Proofs.YtahbggdidhmnfaaDoor

namespace M
/-- What the sum is of. -/
def head (n : Nat) (k : UInt8) (b : List UInt8) : List UInt8 := fix n 8 ++ ([k, UInt8.ofNat b.length] ++ (b ++ List.replicate (234 - b.length) 0))
/-- The sector. -/
def sector (n : Nat) (k : UInt8) (b : List UInt8) : List UInt8 := sealed (head n k b) ++ fix n 8
def wErr (n : Nat) (k : UInt8) (b : List UInt8) : Nat := if n = 0 ∨ k = 0 then 2 else if 233 < b.length then 3 else 0
def kindOf (b : List UInt8) : UInt8 := b.getD 8 0
def lenOf (b : List UInt8) : Nat := (b.getD 9 0).toNat
def behindOf (b : List UInt8) : List UInt8 := (b.take 244).drop (10 + lenOf b)
/-- Is one of them not 0? -/
def some0 (l : List UInt8) : Bool := l.any (fun c => c != 0)
def oErr (b : List UInt8) : Nat :=
  if b.length ≠ 256 then 21 else if unfix (b.take 8) = 0 then 40 else if b.take 8 ≠ b.drop 248 then 23 else if openErr (b.take 248) ≠ 0 then 20
  else if kindOf b = 0 ∨ 233 < lenOf b ∨ some0 (behindOf b) = true then 22 else 0
def oMark (b : List UInt8) : Nat := if oErr b = 0 then unfix (b.take 8) else 0
def oKind (b : List UInt8) : UInt8 := if oErr b = 0 then kindOf b else 0
def oBody (b : List UInt8) : List UInt8 := if oErr b = 0 then (b.drop 10).take (lenOf b) else []
def cl (z : Int) : Nat := if z < 0 then 0 else if 256 < z then 256 else z.toNat
def torn (x y : List UInt8) (z : Int) : List UInt8 := y.take (cl z) ++ x.drop (cl z)

theorem cl_le (z : Int) : cl z ≤ 256 := by unfold cl; split <;> (try split) <;> omega
theorem len_head (n : Nat) (k : UInt8) (b : List UInt8) (h : b.length ≤ 233) : (head n k b).length = 244 := by
  unfold head; simp only [List.length_append, List.length_replicate, List.length_cons, List.length_nil, len_fix]; omega
theorem len_sector (n : Nat) (k : UInt8) (b : List UInt8) (h : b.length ≤ 233) : (sector n k b).length = 256 := by
  unfold sector; rw [List.length_append, len_sealed, len_head n k b h, len_fix]
theorem head_eq (n : Nat) (k : UInt8) (b : List UInt8) : head n k b = fix n 8 ++ (k :: UInt8.ofNat b.length :: (b ++ List.replicate (234 - b.length) 0)) := rfl
theorem sector_eq (n : Nat) (k : UInt8) (b : List UInt8) : sector n k b = fix n 8 ++ (k :: UInt8.ofNat b.length :: (b ++ (List.replicate (234 - b.length) 0 ++ (le (C.sum (head n k b)) ++ fix n 8)))) := by
  unfold sector sealed
  generalize le (C.sum (head n k b)) = l
  rw [head_eq]
  simp only [List.append_assoc, List.cons_append]
theorem sector_take8 (n : Nat) (k : UInt8) (b : List UInt8) : (sector n k b).take 8 = fix n 8 := by
  rw [sector_eq, List.take_left' (len_fix 8 n)]
theorem sector_take248 (n : Nat) (k : UInt8) (b : List UInt8) (h : b.length ≤ 233) : (sector n k b).take 248 = sealed (head n k b) := by
  unfold sector; rw [List.take_left' (by rw [len_sealed, len_head n k b h])]
theorem sector_drop248 (n : Nat) (k : UInt8) (b : List UInt8) (h : b.length ≤ 233) : (sector n k b).drop 248 = fix n 8 := by
  unfold sector; rw [List.drop_left' (by rw [len_sealed, len_head n k b h])]
theorem sector_take244 (n : Nat) (k : UInt8) (b : List UInt8) (h : b.length ≤ 233) : (sector n k b).take 244 = head n k b := by
  unfold sector sealed; rw [List.append_assoc, List.take_left' (len_head n k b h)]
theorem getD_app (x : List UInt8) (y : List UInt8) (m : Nat) (hx : x.length = m) (j : Nat) : (x ++ y).getD (m + j) 0 = y.getD j 0 := by
  rw [List.getD_eq_getElem?_getD, List.getD_eq_getElem?_getD, List.getElem?_append_right (by omega), hx, Nat.add_sub_cancel_left]
theorem sector_kind (n : Nat) (k : UInt8) (b : List UInt8) : kindOf (sector n k b) = k := by
  unfold kindOf; rw [sector_eq]; exact getD_app _ _ 8 (len_fix 8 n) 0
theorem sector_len (n : Nat) (k : UInt8) (b : List UInt8) (h : b.length ≤ 233) : lenOf (sector n k b) = b.length := by
  unfold lenOf; rw [sector_eq, show (9 : Nat) = 8 + 1 from rfl, getD_app _ _ 8 (len_fix 8 n) 1]
  exact ofNat_toNat _ (by omega)
theorem sector_drop10 (n : Nat) (k : UInt8) (b : List UInt8) : (sector n k b).drop 10 = b ++ (List.replicate (234 - b.length) 0 ++ (le (C.sum (head n k b)) ++ fix n 8)) := by
  rw [sector_eq, show (10 : Nat) = 8 + 2 from rfl, ← List.drop_drop, List.drop_left' (len_fix 8 n)]; rfl
theorem head_drop (n : Nat) (k : UInt8) (b : List UInt8) : (head n k b).drop (10 + b.length) = List.replicate (234 - b.length) 0 := by
  rw [head_eq, show 10 + b.length = 8 + (2 + b.length) by omega, ← List.drop_drop, List.drop_left' (len_fix 8 n), ← List.drop_drop]
  show (b ++ _).drop b.length = _
  rw [List.drop_left]
theorem some0_rep (m : Nat) : some0 (List.replicate m 0) = false := by
  unfold some0
  rw [List.any_eq_false]
  intro c hc
  rw [List.eq_of_mem_replicate hc]; simp
/-- What is wrapped is opened. -/
theorem sector_opens (n : Nat) (k : UInt8) (b : List UInt8) (hn : 0 < n) (hn2 : n < 18446744073709551616) (hk : k ≠ 0) (h : b.length ≤ 233) :
    oErr (sector n k b) = 0 ∧ oMark (sector n k b) = n ∧ oKind (sector n k b) = k ∧ oBody (sector n k b) = b := by
  have hu : unfix (fix n 8) = n := by rw [unfix_fix, Nat.mod_eq_of_lt (by omega)]
  have e : oErr (sector n k b) = 0 := by
    unfold oErr
    rw [if_neg (by rw [len_sector n k b h]; simp), sector_take8, hu, if_neg (by omega), sector_drop248 n k b h, if_neg (by simp), sector_take248 n k b h, if_neg (by rw [(opened_sealed _).2]; simp), if_neg]
    unfold behindOf
    rw [sector_kind, sector_len n k b h, sector_take244 n k b h, head_drop, some0_rep]
    rintro (h1 | h1 | h1)
    · exact hk h1
    · omega
    · cases h1
  refine ⟨e, ?_, ?_, ?_⟩
  · rw [oMark, if_pos e, sector_take8, hu]
  · rw [oKind, if_pos e, sector_kind]
  · rw [oBody, if_pos e, sector_drop10, sector_len n k b h, List.take_left]
theorem refused {b : List UInt8} (h : oErr b ≠ 0) : oMark b = 0 ∧ oKind b = 0 ∧ oBody b = [] := by
  exact ⟨by rw [oMark, if_neg h], by rw [oKind, if_neg h], by rw [oBody, if_neg h]⟩

theorem len_torn (x y : List UInt8) (z : Int) (hx : x.length = 256) (hy : y.length = 256) : (torn x y z).length = 256 := by
  have := cl_le z
  unfold torn; rw [List.length_append, List.length_take, List.length_drop]; omega
theorem torn_take (x y : List UInt8) (z : Int) (hy : y.length = 256) (d : Nat) (hd : d ≤ cl z) : (torn x y z).take d = y.take d := by
  have := cl_le z
  unfold torn
  rw [List.take_append_of_le_length (by rw [List.length_take]; omega), List.take_take, Nat.min_eq_left hd]
theorem torn_drop (x y : List UInt8) (z : Int) (hy : y.length = 256) (d : Nat) (hd : cl z ≤ d) : (torn x y z).drop d = x.drop d := by
  have := cl_le z
  unfold torn
  rw [List.drop_append, List.drop_eq_nil_of_le (by rw [List.length_take]; omega), List.nil_append, List.drop_drop, List.length_take, Nat.min_eq_left (by omega)]
  congr 1; omega
theorem same_parts {x t : List UInt8} (d : Nat) (h1 : t.take d = x.take d) (h2 : t.drop d = x.drop d) : t = x := by
  rw [← List.take_append_drop d t, h1, h2, List.take_append_drop]
/-- A torn sector is none. -/
theorem torn_whole {x y : List UInt8} {z : Int} {a b : List UInt8} (hx : x.length = 256) (hy : y.length = 256) (x1 : x.take 8 = a) (x2 : x.drop 248 = a) (y1 : y.take 8 = b) (y2 : y.drop 248 = b) (hab : a ≠ b)
    (tx : torn x y z ≠ x) (ty : torn x y z ≠ y) : oErr (torn x y z) ≠ 0 := by
  intro h
  unfold oErr at h
  rw [if_neg (by rw [len_torn x y z hx hy]; simp)] at h
  split at h
  · cases h
  · split at h
    · cases h
    · rename_i h2
      have h3 : (torn x y z).take 8 = (torn x y z).drop 248 := Classical.not_not.1 h2
      by_cases c1 : cl z ≤ 8
      · refine tx (same_parts 8 ?_ (torn_drop x y z hy 8 c1))
        rw [h3, torn_drop x y z hy 248 (by omega), x1, x2]
      · rw [torn_take x y z hy 8 (by omega)] at h3
        by_cases c2 : cl z ≤ 248
        · rw [torn_drop x y z hy 248 c2, y1, x2] at h3
          exact hab h3.symm
        · exact ty (same_parts 248 (torn_take x y z hy 248 (by omega)) (by rw [← h3, y1, y2]))
theorem noughts_err : oErr (List.replicate 256 0) = 40 := by decide +kernel
/-- Turned bits are told. -/
theorem burst_err {cs f : List UInt8} (hc : cs.length = 248) (he : openErr cs = 20) : oErr (cs ++ f) ≠ 0 := by
  unfold oErr
  rw [List.take_left' hc, he]
  split
  · simp
  · split
    · simp
    · split
      · simp
      · simp
end M

theorem flip_app (cs f : List UInt8) (t : Nat) (h : t < 8 * cs.length) : flip (cs ++ f) t = flip cs t ++ f := by
  apply List.ext_getElem?
  intro j
  unfold flip
  rw [List.getElem?_modify]
  by_cases hj : j < cs.length
  · rw [List.getElem?_append_left hj, List.getElem?_append_left (by rw [List.length_modify]; exact hj), List.getElem?_modify]
  · rw [List.getElem?_append_right (by omega), List.getElem?_append_right (by rw [List.length_modify]; omega), List.length_modify]
    simp [show ¬ t / 8 = j by omega]
theorem five : (M.sector 5 1 [])[7]? = some 5 ∧ (M.sector 5 1 [])[8]? = some 1 ∧ (M.sector 5 1 [])[9]? = some 0 ∧ (M.sector 5 1 [])[255]? = some 5 := by decide +kernel
end Go.Proofs.YtahbggdidhmnfaaDoor
