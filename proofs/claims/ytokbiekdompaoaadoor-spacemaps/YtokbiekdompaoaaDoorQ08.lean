/- A page as it is laid, step by step. -/
import Derived.Test.YtokbiekdompaoaaDoorQ05
namespace Go.Proofs.YtokbiekdompaoaaDoor.M

/-- Bytes put over bytes. -/
def splice (cs : List UInt8) (off : Nat) (xs : List UInt8) : List UInt8 := cs.take off ++ xs ++ cs.drop (off + xs.length)
set_option maxRecDepth 100000 in
theorem splice_zero (P Q : List UInt8) (m : Nat) (xs : List UInt8) (h : xs.length ≤ m) {off : Nat} (ho : P.length = off) : splice (P ++ (List.replicate m 0 ++ Q)) off xs = P ++ (xs ++ (List.replicate (m - xs.length) 0 ++ Q)) := by
  subst ho
  rw [splice, List.take_left' rfl, ← List.drop_drop, List.drop_left' rfl, List.drop_append_of_le_length (by rw [List.length_replicate]; exact h), List.drop_replicate, List.append_assoc]
/-- Ahead of how many bytes cells have. -/
def hd6 (no : Nat) (kind : UInt8) (n : Nat) : List UInt8 := fix no 4 ++ [kind, UInt8.ofNat n]
set_option maxRecDepth 100000 in
theorem len_hd6 (no : Nat) (kind : UInt8) (n : Nat) : (hd6 no kind n).length = 6 := by rw [hd6, List.length_append, len_fix]; rfl
/-- The first k cells are laid, and where they end. -/
def layK (no : Nat) (kind : UInt8) (cs : List (List UInt8)) (k : Nat) : List UInt8 :=
  (hd6 no kind cs.length ++ [0, 0]) ++ ((ends 0 (cs.take k) ++ List.replicate (2 * (cs.length - k)) 0) ++ ((cs.take k).flatten ++ List.replicate (248 - 2 * cs.length - (cs.take k).flatten.length) 0))
set_option maxRecDepth 100000 in
theorem lay0 (no : Nat) : splice (List.replicate 256 0) 0 (fix no 4) = fix no 4 ++ List.replicate 252 0 := by
  rw [splice, len_fix, List.drop_replicate, List.take_zero, List.nil_append]
set_option maxRecDepth 100000 in
theorem lay1 (no : Nat) (k l : UInt8) : ((fix no 4 ++ List.replicate 252 (0 : UInt8)).set 4 k).set 5 l = fix no 4 ++ (k :: l :: List.replicate 250 0) := by
  have h := len_fix 4 no
  rw [List.set_append_right _ _ (by omega), List.set_append_right _ _ (by omega), h]
  rfl
set_option maxRecDepth 100000 in
theorem at4 (n : Nat) : (fix n 4 ++ List.replicate 252 (0 : UInt8))[4]? = some 0 := by
  rw [List.getElem?_append_right (by rw [len_fix]; decide), len_fix]; rfl
set_option maxRecDepth 100000 in
theorem at5 (n : Nat) : (fix n 4 ++ List.replicate 252 (0 : UInt8))[5]? = some 0 := by
  rw [List.getElem?_append_right (by rw [len_fix]; decide), len_fix]; rfl
set_option maxRecDepth 100000 in
theorem lay2 (no : Nat) (kind : UInt8) (cs : List (List UInt8)) (h : cs.length ≤ 122) : fix no 4 ++ (kind :: UInt8.ofNat cs.length :: List.replicate 250 0) = layK no kind cs 0 := by
  rw [layK, hd6]
  simp only [List.take_zero, ends, List.flatten_nil, List.length_nil, List.nil_append, Nat.sub_zero]
  rw [List.replicate_append_replicate, show 2 * cs.length + (248 - 2 * cs.length) = 248 by omega, List.append_assoc, List.append_assoc]
  rfl
set_option maxRecDepth 100000 in
theorem flat_le (cs : List (List UInt8)) (k : Nat) : (cs.take k).flatten.length ≤ cs.flatten.length := by
  conv => rhs; rw [← List.take_append_drop k cs]
  rw [List.flatten_append, List.length_append]; omega
set_option maxRecDepth 100000 in
theorem flat_nx {cs : List (List UInt8)} {k : Nat} {c : List UInt8} (hc : cs[k]? = some c) : (cs.take (k + 1)).flatten = (cs.take k).flatten ++ c := by
  rw [List.take_add_one, hc]; simp
/-- The cell k is laid, too. -/
def layM (no : Nat) (kind : UInt8) (cs : List (List UInt8)) (k : Nat) : List UInt8 :=
  (hd6 no kind cs.length ++ [0, 0]) ++ ((ends 0 (cs.take k) ++ List.replicate (2 * (cs.length - k)) 0) ++ ((cs.take (k + 1)).flatten ++ List.replicate (248 - 2 * cs.length - (cs.take (k + 1)).flatten.length) 0))
set_option maxRecDepth 100000 in
/-- A cell laid. -/
theorem lay3 (no : Nat) (kind : UInt8) {cs : List (List UInt8)} {k : Nat} {c : List UInt8} (h : taken cs ≤ 244) (hc : cs[k]? = some c) :
    splice (layK no kind cs k) (8 + 2 * cs.length + (cs.take k).flatten.length) c = layM no kind cs k := by
  unfold layM
  have hk : k < cs.length := (List.getElem?_eq_some_iff.1 hc).1
  have h1 := flat_le cs (k + 1)
  rw [flat_nx hc, List.length_append] at h1
  have h2 : cs.flatten.length ≤ 244 - 2 * cs.length := by unfold taken at h; omega
  have e := splice_zero ((hd6 no kind cs.length ++ [0, 0]) ++ ((ends 0 (cs.take k) ++ List.replicate (2 * (cs.length - k)) 0) ++ (cs.take k).flatten)) [] (248 - 2 * cs.length - (cs.take k).flatten.length) c (by unfold taken at h; omega) (off := 8 + 2 * cs.length + (cs.take k).flatten.length) (by
    simp only [List.length_append, len_hd6, len_ends, List.length_replicate, List.length_take, List.length_cons, List.length_nil]; omega)
  rw [List.append_nil, List.append_nil] at e
  have e2 : layK no kind cs k = (hd6 no kind cs.length ++ [0, 0]) ++ ((ends 0 (cs.take k) ++ List.replicate (2 * (cs.length - k)) 0) ++ (cs.take k).flatten) ++ List.replicate (248 - 2 * cs.length - (cs.take k).flatten.length) 0 := by
    rw [layK]; simp only [List.append_assoc]
  rw [e2, e, flat_nx hc, List.length_append, Nat.sub_sub]
  simp only [List.append_assoc]
set_option maxRecDepth 100000 in
/-- Where it ends, laid. -/
theorem lay4 (no : Nat) (kind : UInt8) {cs : List (List UInt8)} {k : Nat} {c : List UInt8} (hc : cs[k]? = some c) :
    splice (layM no kind cs k) (8 + 2 * k) (fix (cs.take (k + 1)).flatten.length 2) = layK no kind cs (k + 1) := by
  unfold layM
  have hk : k < cs.length := (List.getElem?_eq_some_iff.1 hc).1
  have e := splice_zero ((hd6 no kind cs.length ++ [0, 0]) ++ ends 0 (cs.take k)) ((cs.take (k + 1)).flatten ++ List.replicate (248 - 2 * cs.length - (cs.take (k + 1)).flatten.length) 0) (2 * (cs.length - k)) (fix (cs.take (k + 1)).flatten.length 2) (by rw [len_fix]; omega) (off := 8 + 2 * k) (by
    simp only [List.length_append, len_hd6, len_ends, List.length_take, List.length_cons, List.length_nil]; omega)
  have e3 : ends 0 (cs.take (k + 1)) = ends 0 (cs.take k) ++ fix (cs.take (k + 1)).flatten.length 2 := by
    rw [flat_nx hc, List.length_append]
    conv => lhs; rw [List.take_add_one, hc]
    show ends 0 (_ ++ [c]) = _
    rw [ends_snoc, Nat.zero_add]
  simp only [List.append_assoc] at e ⊢
  rw [e, layK, e3, len_fix, show 2 * (cs.length - k) - 2 = 2 * (cs.length - (k + 1)) by omega]
  simp only [List.append_assoc]
set_option maxRecDepth 100000 in
/-- The last: how many bytes cells have. -/
theorem lay5 (no : Nat) (kind : UInt8) {cs : List (List UInt8)} (h : taken cs ≤ 244) : splice (layK no kind cs cs.length) 6 (fix cs.flatten.length 2) = pbytes ⟨no, kind, cs⟩ := by
  have e := splice_zero (hd6 no kind cs.length) (ends 0 cs ++ (cs.flatten ++ List.replicate (248 - 2 * cs.length - cs.flatten.length) 0)) 2 (fix cs.flatten.length 2) (by rw [len_fix]; omega) (off := 6) (len_hd6 _ _ _)
  have e2 : layK no kind cs cs.length = hd6 no kind cs.length ++ (List.replicate 2 0 ++ (ends 0 cs ++ (cs.flatten ++ List.replicate (248 - 2 * cs.length - cs.flatten.length) 0))) := by
    rw [layK, List.take_length, Nat.sub_self, Nat.mul_zero, List.replicate_zero, List.append_nil]
    simp only [List.append_assoc]; rfl
  rw [e2, e, len_fix, Nat.sub_self, List.replicate_zero, List.nil_append, pbytes, pfirst, phead, room, hd6]
  simp only [List.append_assoc, List.cons_append, List.nil_append]
  congr 6
  rw [show [(0 : UInt8), 0, 0, 0] = List.replicate 4 0 from rfl, List.replicate_append_replicate]
  congr 1
  unfold taken at h ⊢
  omega
end Go.Proofs.YtokbiekdompaoaaDoor.M
