/- Sorting by blocks that are merged. -/
import Derived.Test.YtkkmbpcmkhikkaaSMath
namespace Go.Proofs.Ytkkmbpcmkhikkaa.M
variable {α : Type} [Inhabited α]

/-- What the whole keeps throughout. -/
structure Kpt (lt : α → α → Bool) (n : Nat) (l m : List α) : Prop where
  mv : Mv 0 n l m
  same : Srt lt 0 n l → m = l
theorem Kpt.start {lt : α → α → Bool} {n : Nat} {l : List α} : Kpt lt n l l := ⟨.refl _ _ _, fun _ => rfl⟩
theorem Kpt.step {lt : α → α → Bool} {n a b : Nat} {l m m' : List α} (h : Kpt lt n l m) (k : Mrg lt a b m m') (hb : b ≤ n) : Kpt lt n l m' :=
  ⟨h.mv.trans (k.mv.mono (Nat.zero_le _) hb), fun hs => by
    have e := h.same hs
    subst e
    exact k.same (hs.part (Nat.zero_le _) hb)⟩
/-- Among blocks of s places those up to a are merged two by two. -/
structure Two (lt : α → α → Bool) (s n a : Nat) (m : List α) : Prop where
  done : Blk lt (2 * s) a m
  todo : ∀ i j, a ≤ i → i < j → j < n → i / s = j / s → lt m[j]! m[i]! = false
theorem Two.start {lt : α → α → Bool} {s n : Nat} {m : List α} (h : Blk lt s n m) : Two lt s n 0 m := ⟨.zero, fun i j _ h2 h3 h4 => h i j h2 h3 h4⟩
theorem div_of {s q i : Nat} (h1 : q * s ≤ i) (h2 : i < q * s + s) : i / s = q := Nat.div_eq_of_lt_le h1 (by rw [Nat.succ_mul]; omega)
theorem Two.one {lt : α → α → Bool} {s n a q : Nat} {m : List α} (h : Two lt s n a m) (ha : a = q * (2 * s)) (hn : a + s ≤ n) : Srt lt a (a + s) m := fun i j h1 h2 h3 => by
  have e : a = (2 * q) * s := by rw [ha, Nat.mul_left_comm, Nat.mul_assoc]
  exact h.todo i j h1 h2 (by omega) (by rw [div_of (q := 2 * q) (by omega) (by omega), div_of (q := 2 * q) (by omega) (by omega)])
theorem Two.two {lt : α → α → Bool} {s n a q b : Nat} {m : List α} (h : Two lt s n a m) (ha : a = q * (2 * s)) (hb : b ≤ a + 2 * s) (hn : b ≤ n) : Srt lt (a + s) b m := fun i j h1 h2 h3 => by
  have e : a = (2 * q) * s := by rw [ha, Nat.mul_left_comm, Nat.mul_assoc]
  have e2 : (2 * q + 1) * s = (2 * q) * s + s := by rw [Nat.succ_mul]
  exact h.todo i j (by omega) h2 (by omega) (by rw [div_of (q := 2 * q + 1) (by omega) (by omega), div_of (q := 2 * q + 1) (by omega) (by omega)])
theorem Two.step {lt : α → α → Bool} {s n a q : Nat} {m m' : List α} (h : Two lt s n a m) (hs : 0 < s) (ha : a = q * (2 * s)) (k : Mrg lt a (a + 2 * s) m m') : Two lt s n (a + 2 * s) m' :=
  ⟨h.done.more (by omega) ha (Nat.le_refl _) k.mv k.srt, Blk.keep h.todo k.mv (by omega)⟩
theorem Two.last {lt : α → α → Bool} {s n a q : Nat} {m m' : List α} (h : Two lt s n a m) (hs : 0 < s) (ha : a = q * (2 * s)) (hn : n ≤ a + 2 * s) (k : Mrg lt a n m m') : Blk lt (2 * s) n m' :=
  h.done.more (by omega) ha hn k.mv k.srt
theorem Two.rest {lt : α → α → Bool} {s n a q : Nat} {m : List α} (h : Two lt s n a m) (hs : 0 < s) (ha : a = q * (2 * s)) (hn : n ≤ a + s) : Blk lt (2 * s) n m :=
  h.done.more (by omega) ha (by omega) (.refl a n m) (fun i j h1 h2 h3 => by
    have e : a = (2 * q) * s := by rw [ha, Nat.mul_left_comm, Nat.mul_assoc]
    exact h.todo i j h1 h2 h3 (by rw [div_of (q := 2 * q) (by omega) (by omega), div_of (q := 2 * q) (by omega) (by omega)]))
theorem next_two (q s : Nat) : q * (2 * s) + 2 * s = (q + 1) * (2 * s) := (Nat.succ_mul q (2 * s)).symm
end Go.Proofs.Ytkkmbpcmkhikkaa.M
