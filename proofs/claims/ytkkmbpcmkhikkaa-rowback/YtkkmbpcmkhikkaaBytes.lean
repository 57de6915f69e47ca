/- A value's bytes, and how they are taken: by definition. -/
import Derived.Test.YtkkmbpcmkhikkaaValue
namespace Go.Proofs.Ytkkmbpcmkhikkaa.M

/-- What is put behind the kind. -/
def body (p : V) : List UInt8 :=
  if p.k = 1 then [UInt8.ofNat p.n.toNat] else if p.k = 2 then enc (zig p.n) else if p.k = 3 then fix (canon p.b) 8 else if p.k = 4 then enc p.t.length ++ p.t else []
def put (v : V) : List UInt8 := UInt8.ofNat (plain v).k.toNat :: body (plain v)
/-- What is taken behind the kind. -/
def rest (k : Nat) (s : St) : V × St :=
  if k = 1 then (⟨1, ((fixedR 1 s).1 : Int), 0, []⟩, (fixedR 1 s).2) else if k = 2 then (⟨2, (intR s).1, 0, []⟩, (intR s).2)
  else if k = 3 then (⟨3, 0, (floatR s).1, []⟩, (floatR s).2) else if k = 4 then (⟨4, 0, 0, (textR 64 s).1⟩, (textR 64 s).2) else (⟨k, 0, 0, []⟩, s)
def takeV (s : St) : V × St := rest (fixedR 1 s).1 (fixedR 1 s).2
def takenV (s : St) : V := if (takeV s).2.e ≠ 0 then V0 else if right (takeV s).1 then (takeV s).1 else V0
def takenE (s : St) : Nat := if (takeV s).2.e ≠ 0 then (takeV s).2.e else if right (takeV s).1 then 0 else 22

theorem byte_cons (c : UInt8) (l : List UInt8) : fixedR 1 ⟨0, c :: l⟩ = (c.toNat, ⟨0, l⟩) := by
  have h : clamp 1 = 1 := rfl
  rw [fixedR, h, takeR_ok rfl (by simp)]
  simp [unfix]
theorem int_put {z : Int} (h : -9223372036854775808 ≤ z ∧ z ≤ 9223372036854775807) (l : List UInt8) : intR ⟨0, enc (zig z) ++ l⟩ = (z, ⟨0, l⟩) := by
  have h1 := zig_lt h.1 (show z < 9223372036854775808 by omega)
  rw [intR, uintR_ok rfl (scan_put (zig z) h1 l) (by omega), unzig_zig]
theorem fix_put {n : Nat} (h : n < 18446744073709551616) (l : List UInt8) : fixedR 8 ⟨0, fix n 8 ++ l⟩ = (n, ⟨0, l⟩) := by
  have h8 : clamp 8 = 8 := rfl
  have hl := len_fix 8 n
  rw [fixedR, h8, takeR_ok rfl (by simp [hl]), List.take_left' hl, List.drop_left' hl, unfix_fix, Nat.mod_eq_of_lt h]
theorem float_put {b : Nat} (h : b < 18446744073709551616) (hc : canon b = b) (l : List UInt8) : floatR ⟨0, fix b 8 ++ l⟩ = (b, ⟨0, l⟩) := by
  rw [floatR, fix_put h l, if_pos hc]
theorem text_put {t : List UInt8} (h : t.length ≤ 64) (l : List UInt8) : textR 64 ⟨0, (enc t.length ++ t) ++ l⟩ = (t, ⟨0, l⟩) := by
  have h64 : atLeast0 64 = 64 := rfl
  rw [textR, h64, List.append_assoc, uintR_ok rfl (scan_put t.length (by omega) (t ++ l)) (by omega), takeR_ok rfl (by simp)]
  simp
theorem kind_byte {p : V} (h : Fit p) : (UInt8.ofNat p.k.toNat).toNat = p.k.toNat ∧ ((p.k.toNat : Nat) : Int) = p.k ∧ p.k.toNat ≤ 4 := by
  have := h.kind
  refine ⟨ofNat_toNat _ (by omega), by omega, by omega⟩
theorem rest_body {p : V} (h : IsPlain p) (l : List UInt8) : rest p.k.toNat ⟨0, body p ++ l⟩ = (p, ⟨0, l⟩) := by
  obtain ⟨k, n, b, t⟩ := p
  have hf := h.fit
  have ho := h.ok
  rcases hf.kind with e | e | e | e | e <;> simp only at e <;> subst e
  · obtain rfl : b = 0 := h.noughts (by simp)
    obtain rfl : n = 0 := hf.int (by simp)
    obtain rfl : t = [] := hf.text (by simp)
    rfl
  · obtain rfl : b = 0 := h.noughts (by simp)
    obtain rfl : t = [] := hf.text (by simp)
    have hn := hf.bool rfl
    simp only at hn
    show ((⟨1, ((fixedR 1 ⟨0, UInt8.ofNat n.toNat :: l⟩).1 : Int), 0, []⟩ : V), (fixedR 1 ⟨0, UInt8.ofNat n.toNat :: l⟩).2) = _
    rw [byte_cons, ofNat_toNat _ (by omega)]
    have : ((n.toNat : Nat) : Int) = n := by omega
    rw [this]
  · obtain rfl : b = 0 := h.noughts (by simp)
    obtain rfl : t = [] := hf.text (by simp)
    show ((⟨2, (intR ⟨0, enc (zig n) ++ l⟩).1, 0, []⟩ : V), (intR ⟨0, enc (zig n) ++ l⟩).2) = _
    rw [int_put ho.n]
  · obtain rfl : n = 0 := hf.int (by simp)
    obtain rfl : t = [] := hf.text (by simp)
    show ((⟨3, 0, (floatR ⟨0, fix (canon b) 8 ++ l⟩).1, []⟩ : V), (floatR ⟨0, fix (canon b) 8 ++ l⟩).2) = _
    have hs : canon b = b := h.same
    rw [hs, float_put ho.b hs]
  · obtain rfl : b = 0 := h.noughts (by simp)
    obtain rfl : n = 0 := hf.int (by simp)
    show ((⟨4, 0, 0, (textR 64 ⟨0, (enc t.length ++ t) ++ l⟩).1⟩ : V), (textR 64 ⟨0, (enc t.length ++ t) ++ l⟩).2) = _
    rw [text_put (hf.len rfl)]
theorem takeV_put {v : V} (h : v.Ok) (l : List UInt8) : takeV ⟨0, put v ++ l⟩ = (plain v, ⟨0, l⟩) := by
  have hp := plain_is h
  have hk := kind_byte hp.fit
  unfold takeV put
  rw [List.cons_append, byte_cons, hk.1]
  exact rest_body hp l
theorem takenV_put {v : V} (h : v.Ok) (l : List UInt8) : takenV ⟨0, put v ++ l⟩ = plain v := by
  rw [takenV, takeV_put h]
  simp [right_plain h]
theorem takenE_put {v : V} (h : v.Ok) (l : List UInt8) : takenE ⟨0, put v ++ l⟩ = 0 := by
  rw [takenE, takeV_put h]
  simp [right_plain h]
theorem put_eq {u v : V} (hu : u.Ok) (hv : v.Ok) : put u = put v ↔ cmp u v = 0 := by
  rw [cmp_eq hu hv]
  constructor
  · intro h
    have h1 := takeV_put hu []
    rw [h, takeV_put hv []] at h1
    exact (Prod.mk.inj h1).1.symm
  · intro h
    unfold put
    rw [h]
theorem len_body {p : V} (h : IsPlain p) : (body p).length ≤ 74 := by
  unfold body
  split
  · simp
  · split
    · have := len_enc10 (zig_lt h.ok.n.1 (show p.n < 9223372036854775808 by have := h.ok.n.2; omega)); omega
    · split
      · rw [len_fix]; omega
      · split
        · have h1 := h.fit.len (by assumption)
          have := len_enc10 (show p.t.length < 18446744073709551616 by omega)
          rw [List.length_append]; omega
        · simp
theorem len_put {v : V} (h : v.Ok) : (put v).length ≤ 75 := by
  have := len_body (plain_is h)
  simp [put]; omega
end Go.Proofs.Ytkkmbpcmkhikkaa.M
