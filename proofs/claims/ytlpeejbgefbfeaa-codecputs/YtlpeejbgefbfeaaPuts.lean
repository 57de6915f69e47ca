/- What is put, held against the reference: the walk. -/
import Derived.Test.YtlpeejbgefbfeaaRPut
import Derived.Test.YtlpeejbgefbfeaaOrder
import Derived.Deep.CutRange
namespace Go.Proofs.Ytlpeejbgefbfeaa
open Go.RowKit

/-- Bytes in new memory, as a string from there on. -/
def PK (w : World) (x : List UInt8) (e : Ending) (w' : World) : Prop := ∃ a cap, e = .returned (.slice a x.length cap) ∧ Hid ((∀ w'', Adds w' w'' → (convert 22 9 (.slice a x.length cap)).run Try.prog w'' = .ok (.string ⟨x.toArray⟩) w'') ∧ Adds w w')
theorem POwn.pk {w w' : World} {x : List UInt8} {e : Ending} (h : POwn w x e w') : PK w x e w' := by
  obtain ⟨v, rfl, h1, h2⟩ := h
  obtain ⟨a, cap, rfl, hL⟩ := Own.lies h1
  exact ⟨a, cap, rfl, fun w'' hA => conv_at w'' a x cap (hL.at_.adds hA), h2⟩
/-- The ten puts. -/
structure Ten (w1 : World) (a1 : Option Addr) (bs : List UInt8) (cap1 n : Nat) (z : Int) (ts : List UInt8) (b : Nat) (size : Int) (y1 y2 y3 y4 y5 x1 x2 x3 x4 x5 : List UInt8) : Prop where
  s1 : ∀ w, Adds w1 w → Calls Try.prog 9 #[.slice a1 bs.length cap1, .int .u64 (n : Int)] w (PK w x1)
  r1 : ∀ w, Calls Try.prog 10 #[.int .u64 (n : Int)] w (PK w y1)
  s2 : ∀ w, Adds w1 w → Calls Try.prog 11 #[.slice a1 bs.length cap1, .int .i64 z] w (PK w x2)
  r2 : ∀ w, Calls Try.prog 12 #[.int .i64 z] w (PK w y2)
  s3 : ∀ w, Adds w1 w → Calls Try.prog 13 #[.slice a1 bs.length cap1, .string ⟨ts.toArray⟩] w (PK w x3)
  r3 : ∀ w, Calls Try.prog 14 #[.string ⟨ts.toArray⟩] w (PK w y3)
  s4 : ∀ w, Adds w1 w → Calls Try.prog 15 #[.slice a1 bs.length cap1, .float .f64 b] w (PK w x4)
  r4 : ∀ w, Calls Try.prog 16 #[.float .f64 b] w (PK w y4)
  s5 : ∀ w, Adds w1 w → Calls Try.prog 17 #[.slice a1 bs.length cap1, .int .u64 (n : Int), .int .i64 size] w (PK w x5)
  r5 : ∀ w, Calls Try.prog 18 #[.int .u64 (n : Int), .int .i64 size] w (PK w y5)
  e1 : x1 = bs ++ y1
  e2 : x2 = bs ++ y2
  e3 : x3 = bs ++ y3
  e4 : x4 = bs ++ y4
  e5 : x5 = bs ++ y5
  l1 : y1.length ≤ 3000
  l2 : y2.length ≤ 3000
  l3 : y3.length ≤ 3000
  l4 : y4.length ≤ 3000
  l5 : y5.length ≤ 3000
theorem ten (w1 : World) (a1 : Option Addr) (bs : List UInt8) (cap1 n : Nat) (z : Int) (ts : List UInt8) (b : Nat) (size : Int) {p : Nat} (hL : Lies w1 p a1 bs cap1) (hl : bs.length ≤ 1000000) (hn : n < 18446744073709551616) (hz : -9223372036854775808 ≤ z ∧ z ≤ 9223372036854775807) (ht : ts.length ≤ 2000) (hb : b < 18446744073709551616) :
    ∃ y1 y2 y3 y4 y5 x1 x2 x3 x4 x5, Ten w1 a1 bs cap1 n z ts b size y1 y2 y3 y4 y5 x1 x2 x3 x4 x5 := by
  refine ⟨M.enc n, M.enc (M.zig z), M.enc ts.length ++ ts, M.fix (M.canon b) 8, M.fix n (M.clamp size), _, _, _, _, _, ?_, ?_, ?_, ?_, ?_, ?_, ?_, ?_, ?_, ?_, rfl, rfl, rfl, rfl, rfl, ?_, ?_, ?_, ?_, ?_⟩
  · exact fun w h => (putUint_any a1 bs cap1 n w hl hn hL.non (hL.at_.adds h)).mono fun _ _ h => h.pk
  · exact fun w => (ruintp_any n hn w).mono fun _ _ h => h.pk
  · exact fun w h => (putInt_any a1 bs cap1 z w hl hz.1 hz.2 hL.non (hL.at_.adds h)).mono fun _ _ h => h.pk
  · exact fun w => (rintp_any z hz.1 hz.2 w).mono fun _ _ h => h.pk
  · exact fun w h => (putText_any a1 bs cap1 ts w hl (by omega) hL.non (hL.at_.adds h)).mono fun _ _ h => h.pk
  · exact fun w => (rtextp_any ts (by omega) w).mono fun _ _ h => h.pk
  · exact fun w h => (putFloat_any a1 bs cap1 b w hl hL.non (hL.at_.adds h)).mono fun _ _ h => h.pk
  · exact fun w => (rfloatp_any b hb w).mono fun _ _ h => h.pk
  · exact fun w h => (putFixed_any a1 bs cap1 n size w hl hL.non (hL.at_.adds h)).mono fun _ _ h => h.pk
  · exact fun w => (rfixedp_any n hn size w).mono fun _ _ h => h.pk
  · have := M.len_enc10 hn; omega
  · have := M.len_enc10 (M.zig_lt hz.1 (by omega)); omega
  · have := M.len_enc10 (show ts.length < 18446744073709551616 by omega); rw [List.length_append]; omega
  · rw [M.len_fix]; omega
  · rw [M.len_fix]; have := M.clamp_le size; omega

set_option maxRecDepth 100000 in
set_option maxHeartbeats 1000000 in
theorem puts_long (n : Int) (z : Int) (ts : List UInt8) (b : Nat) (size : Int) (a : Option Addr) (len cap : Nat) (h : 2000 < len ∨ 2000 < ts.length) (w : World) :
    Calls Try.prog 3 #[.slice a len cap, .int .u64 n, .int .i64 z, .string ⟨ts.toArray⟩, .float .f64 b, .int .i64 size] w (PLaw w) := by
  by_cases h1 : 2000 < len
  · have h1' : (2000 : Int) < (len : Int) := by omega
    clear h
    go_enter Try.func3, Try.ntmps3
    go_wp2
    go_ret
    exact ⟨rfl, Touch.refl _ _⟩
  · have h1' : ¬ ((2000 : Int) < (len : Int)) := by omega
    have h2' : (2000 : Int) < (ts.length : Int) := by omega
    clear h
    go_enter Try.func3, Try.ntmps3
    go_wp2
    go_ret
    exact ⟨rfl, Touch.refl _ _⟩
set_option maxRecDepth 100000 in
set_option maxHeartbeats 2000000 in
theorem puts_short (n : Nat) (z : Int) (ts : List UInt8) (b : Nat) (size : Int) (a : Option Addr) (bs : List UInt8) (cap : Nat) (w : World) (hn : n < 18446744073709551616) (hz : -9223372036854775808 ≤ z ∧ z ≤ 9223372036854775807) (hb : b < 18446744073709551616) (hs : bs.length ≤ 2000) (ht : ts.length ≤ 2000) (hcap : a = none → cap = 0) (hA : At w a bs) :
    Calls Try.prog 3 #[.slice a bs.length cap, .int .u64 (n : Int), .int .i64 z, .string ⟨ts.toArray⟩, .float .f64 b, .int .i64 size] w (PLaw w) := by
  have HO := hid (World.ownsRow_lit (base := w.heap.size) (e := 5) (size := 1) w #[] 0 (Nat.le_refl _) (by decide) rfl)
  have HA := hid (And.intro hA hcap)
  have HS := hid (And.intro hs ht)
  have HN := hid (And.intro hn (And.intro hz hb))
  have ht' : ¬ ((2000 : Int) < (ts.length : Int)) := by omega
  have hs' : ¬ ((2000 : Int) < (bs.length : Int)) := by omega
  clear hn hz hb hcap hA hs ht
  go_enter Try.func3, Try.ntmps3
  go_upto_region 5 with (first
    | (at_builtin; refine append_bytes rfl _ _ rfl w.heap.size (.slice (some ⟨w.heap.size, 0, none⟩) 0 0) 0 [] rfl HO.out a bs cap rfl HA.out.2 (HA.out.1.adds ((Touch.refl _ w).alloc _)) (by have := HS.out.1; omega) (by simp) ?_; intro v1 w1 hown1 hgrow1 hne1; rw [Nat.zero_add, List.nil_append] at hown1; obtain ⟨a1, cap1, rfl, hL1⟩ := Own.lies hown1; have Q1 := hid (And.intro hL1 (show Adds w w1 from Touch.grown ((Touch.refl _ w).alloc _) hgrow1 (fun j hj hlt => by simp [Value.ownBlock] at hj; omega))); have hcv0 := conv_at w1 a bs cap (HA.out.1.adds Q1.out.2); clear hown1 hgrow1 hne1 hL1))
  obtain ⟨y1, y2, y3, y4, y5, x1, x2, x3, x4, x5, hten⟩ := ten w1 a1 bs cap1 n z ts b size Q1.out.1 (by have := HS.out.1; omega) HN.out.1 HN.out.2.1 HS.out.2 HN.out.2.2
  have HT := hid hten
  have HX := hid (show ∀ w', Adds w1 w' → (convert 22 9 (.slice a1 bs.length cap1)).run Try.prog w' = .ok (.string ⟨bs.toArray⟩) w' from fun w' h => conv_at w' a1 bs cap1 (Q1.out.1.at_.adds h))
  have hlb : bs.length ≤ 2000 := HS.out.1
  obtain ⟨l1, l2, l3, l4, l5⟩ : y1.length ≤ 3000 ∧ y2.length ≤ 3000 ∧ y3.length ≤ 3000 ∧ y4.length ≤ 3000 ∧ y5.length ≤ 3000 := ⟨hten.l1, hten.l2, hten.l3, hten.l4, hten.l5⟩
  have p1 : ByteArray.mk bs.toArray ++ ByteArray.mk y1.toArray = ByteArray.mk x1.toArray := by rw [ByteArray.mk_append_mk, hten.e1]
  have p2 : ByteArray.mk bs.toArray ++ ByteArray.mk y2.toArray = ByteArray.mk x2.toArray := by rw [ByteArray.mk_append_mk, hten.e2]
  have p3 : ByteArray.mk bs.toArray ++ ByteArray.mk y3.toArray = ByteArray.mk x3.toArray := by rw [ByteArray.mk_append_mk, hten.e3]
  have p4 : ByteArray.mk bs.toArray ++ ByteArray.mk y4.toArray = ByteArray.mk x4.toArray := by rw [ByteArray.mk_append_mk, hten.e4]
  have p5 : ByteArray.mk bs.toArray ++ ByteArray.mk y5.toArray = ByteArray.mk x5.toArray := by rw [ByteArray.mk_append_mk, hten.e5]
  clear hten hcv0 HA HO HN HS
  go_cut [15] from 29 to 62 (fun t15 wx => t15 = .bool true ∧ Hid (Adds w1 wx))
  case first =>
    have AD := hid (show Adds w1 w1.drew from (Touch.refl _ w1).drew)
    have hS := AD.out
    refine H_begin (S := fun w' => Adds w1 w') (by kernel_rfl) ?_
    refine H_put (i := 0) 29 (v := .slice a1 bs.length cap1) rfl rfl (by kernel_rfl) (by kernel_rfl) (by kernel_rfl) (fun _ _ _ h => h) (Or.inl ⟨by rfl, fun w' hw' => ?_⟩) hS ?_
    · go_simp
    simp only [Act.put, List.setIfInBounds_toArray, List.set_cons_zero, List.set_cons_succ]
    refine H_put (i := 1) 30 (v := .int .u64 (n : Int)) rfl rfl (by kernel_rfl) (by kernel_rfl) (by kernel_rfl) (fun _ _ _ h => h) (Or.inl ⟨by rfl, fun w' hw' => ?_⟩) hS ?_
    · go_simp
    simp only [Act.put, List.setIfInBounds_toArray, List.set_cons_zero, List.set_cons_succ]
    refine H_put (i := 4) 33 (v := .string ⟨bs.toArray⟩) rfl rfl (by kernel_rfl) (by kernel_rfl) (by kernel_rfl) (fun _ _ _ h => h) (Or.inl ⟨by rfl, fun w' hw' => ?_⟩) hS ?_
    · go_simp
    simp only [Act.put, List.setIfInBounds_toArray, List.set_cons_zero, List.set_cons_succ]
    refine H_put (i := 5) 34 (v := .int .u64 (n : Int)) rfl rfl (by kernel_rfl) (by kernel_rfl) (by kernel_rfl) (fun _ _ _ h => h) (Or.inl ⟨by rfl, fun w' hw' => ?_⟩) hS ?_
    · go_simp
    simp only [Act.put, List.setIfInBounds_toArray, List.set_cons_zero, List.set_cons_succ]
    refine H_call (i := 2) 31 9 #[.slice a1 bs.length cap1, .int .u64 (n : Int)] (by kernel_rfl) rfl rfl (by rfl) (by go_simp) (HT.out.s1 _ (AD.out)) ?_
    rintro e wk1 ⟨awk1, cwk1, rfl, Kwk1⟩
    have Awk1 := hid (show Adds w1 wk1 from AD.out.trans Kwk1.out.2)
    refine ⟨_, fun w' => Adds wk1 w', rfl, Touch.refl _ _, fun w' h => Awk1.out.trans h, ?_⟩
    have hS : Adds wk1 wk1 := Touch.refl _ _
    simp only [Act.put, List.setIfInBounds_toArray, List.set_cons_zero, List.set_cons_succ]
    refine H_put (i := 3) 32 (v := .string ⟨x1.toArray⟩) rfl rfl (by kernel_rfl) (by kernel_rfl) (by kernel_rfl) (fun _ _ _ h => h) (Or.inl ⟨by rfl, fun w' hw' => ?_⟩) hS ?_
    · have hq := Kwk1.out.1 w' hw'; go_simp
    simp only [Act.put, List.setIfInBounds_toArray, List.set_cons_zero, List.set_cons_succ]
    refine H_call (i := 6) 35 10 #[.int .u64 (n : Int)] (by kernel_rfl) rfl rfl (by rfl) (by go_simp) (HT.out.r1 _) ?_
    rintro e wk2 ⟨awk2, cwk2, rfl, Kwk2⟩
    have Awk2 := hid (show Adds w1 wk2 from Awk1.out.trans Kwk2.out.2)
    refine ⟨_, fun w' => Adds wk2 w', rfl, Touch.refl _ _, fun w' h => Kwk2.out.2.trans h, ?_⟩
    have hS : Adds wk2 wk2 := Touch.refl _ _
    simp only [Act.put, List.setIfInBounds_toArray, List.set_cons_zero, List.set_cons_succ]
    refine H_put (i := 7) 36 (v := .string ⟨y1.toArray⟩) rfl rfl (by kernel_rfl) (by kernel_rfl) (by kernel_rfl) (fun _ _ _ h => h) (Or.inl ⟨by rfl, fun w' hw' => ?_⟩) hS ?_
    · have hq := Kwk2.out.1 w' hw'; go_simp
    simp only [Act.put, List.setIfInBounds_toArray, List.set_cons_zero, List.set_cons_succ]
    refine H_put (i := 8) 37 (v := .string ⟨x1.toArray⟩) rfl rfl (by kernel_rfl) (by kernel_rfl) (by kernel_rfl) (fun _ _ _ h => h) (Or.inl ⟨by rfl, fun w' hw' => ?_⟩) hS ?_
    · go_simp; omega
    simp only [Act.put, List.setIfInBounds_toArray, List.set_cons_zero, List.set_cons_succ]
    refine H_put (i := 9) 38 (v := .bool true) rfl rfl (by kernel_rfl) (by kernel_rfl) (by kernel_rfl) (fun _ _ _ h => h) (Or.inl ⟨by rfl, fun w' hw' => ?_⟩) hS ?_
    · go_simp
    simp only [Act.put, List.setIfInBounds_toArray, List.set_cons_zero, List.set_cons_succ]
    refine H_put (i := 10) 39 (v := .bool true) rfl rfl (by kernel_rfl) (by kernel_rfl) (by kernel_rfl) (fun _ _ _ h => h) (Or.inl ⟨by rfl, fun w' hw' => ?_⟩) hS ?_
    · go_simp
    simp only [Act.put, List.setIfInBounds_toArray, List.set_cons_zero, List.set_cons_succ]
    refine H_put (i := 11) 40 (v := .slice a1 bs.length cap1) rfl rfl (by kernel_rfl) (by kernel_rfl) (by kernel_rfl) (fun _ _ _ h => h) (Or.inl ⟨by rfl, fun w' hw' => ?_⟩) hS ?_
    · go_simp
    simp only [Act.put, List.setIfInBounds_toArray, List.set_cons_zero, List.set_cons_succ]
    refine H_put (i := 12) 41 (v := .int .i64 z) rfl rfl (by kernel_rfl) (by kernel_rfl) (by kernel_rfl) (fun _ _ _ h => h) (Or.inl ⟨by rfl, fun w' hw' => ?_⟩) hS ?_
    · go_simp
    simp only [Act.put, List.setIfInBounds_toArray, List.set_cons_zero, List.set_cons_succ]
    refine H_put (i := 15) 44 (v := .string ⟨bs.toArray⟩) rfl rfl (by kernel_rfl) (by kernel_rfl) (by kernel_rfl) (fun _ _ _ h => h) (Or.inl ⟨by rfl, fun w' hw' => ?_⟩) hS ?_
    · go_simp
    simp only [Act.put, List.setIfInBounds_toArray, List.set_cons_zero, List.set_cons_succ]
    refine H_put (i := 16) 45 (v := .int .i64 z) rfl rfl (by kernel_rfl) (by kernel_rfl) (by kernel_rfl) (fun _ _ _ h => h) (Or.inl ⟨by rfl, fun w' hw' => ?_⟩) hS ?_
    · go_simp
    simp only [Act.put, List.setIfInBounds_toArray, List.set_cons_zero, List.set_cons_succ]
    refine H_call (i := 13) 42 11 #[.slice a1 bs.length cap1, .int .i64 z] (by kernel_rfl) rfl rfl (by rfl) (by go_simp) (HT.out.s2 _ (Awk2.out)) ?_
    rintro e wk3 ⟨awk3, cwk3, rfl, Kwk3⟩
    have Awk3 := hid (show Adds w1 wk3 from Awk2.out.trans Kwk3.out.2)
    refine ⟨_, fun w' => Adds wk3 w', rfl, Touch.refl _ _, fun w' h => Kwk3.out.2.trans h, ?_⟩
    have hS : Adds wk3 wk3 := Touch.refl _ _
    simp only [Act.put, List.setIfInBounds_toArray, List.set_cons_zero, List.set_cons_succ]
    refine H_put (i := 14) 43 (v := .string ⟨x2.toArray⟩) rfl rfl (by kernel_rfl) (by kernel_rfl) (by kernel_rfl) (fun _ _ _ h => h) (Or.inl ⟨by rfl, fun w' hw' => ?_⟩) hS ?_
    · have hq := Kwk3.out.1 w' hw'; go_simp
    simp only [Act.put, List.setIfInBounds_toArray, List.set_cons_zero, List.set_cons_succ]
    refine H_call (i := 17) 46 12 #[.int .i64 z] (by kernel_rfl) rfl rfl (by rfl) (by go_simp) (HT.out.r2 _) ?_
    rintro e wk4 ⟨awk4, cwk4, rfl, Kwk4⟩
    have Awk4 := hid (show Adds w1 wk4 from Awk3.out.trans Kwk4.out.2)
    refine ⟨_, fun w' => Adds wk4 w', rfl, Touch.refl _ _, fun w' h => Kwk4.out.2.trans h, ?_⟩
    have hS : Adds wk4 wk4 := Touch.refl _ _
    simp only [Act.put, List.setIfInBounds_toArray, List.set_cons_zero, List.set_cons_succ]
    refine H_put (i := 18) 47 (v := .string ⟨y2.toArray⟩) rfl rfl (by kernel_rfl) (by kernel_rfl) (by kernel_rfl) (fun _ _ _ h => h) (Or.inl ⟨by rfl, fun w' hw' => ?_⟩) hS ?_
    · have hq := Kwk4.out.1 w' hw'; go_simp
    simp only [Act.put, List.setIfInBounds_toArray, List.set_cons_zero, List.set_cons_succ]
    refine H_put (i := 19) 48 (v := .string ⟨x2.toArray⟩) rfl rfl (by kernel_rfl) (by kernel_rfl) (by kernel_rfl) (fun _ _ _ h => h) (Or.inl ⟨by rfl, fun w' hw' => ?_⟩) hS ?_
    · go_simp; omega
    simp only [Act.put, List.setIfInBounds_toArray, List.set_cons_zero, List.set_cons_succ]
    refine H_put (i := 20) 49 (v := .bool true) rfl rfl (by kernel_rfl) (by kernel_rfl) (by kernel_rfl) (fun _ _ _ h => h) (Or.inl ⟨by rfl, fun w' hw' => ?_⟩) hS ?_
    · go_simp
    simp only [Act.put, List.setIfInBounds_toArray, List.set_cons_zero, List.set_cons_succ]
    refine H_put (i := 21) 50 (v := .bool true) rfl rfl (by kernel_rfl) (by kernel_rfl) (by kernel_rfl) (fun _ _ _ h => h) (Or.inl ⟨by rfl, fun w' hw' => ?_⟩) hS ?_
    · go_simp
    simp only [Act.put, List.setIfInBounds_toArray, List.set_cons_zero, List.set_cons_succ]
    refine H_put (i := 22) 51 (v := .bool true) rfl rfl (by kernel_rfl) (by kernel_rfl) (by kernel_rfl) (fun _ _ _ h => h) (Or.inl ⟨by rfl, fun w' hw' => ?_⟩) hS ?_
    · go_simp
    simp only [Act.put, List.setIfInBounds_toArray, List.set_cons_zero, List.set_cons_succ]
    refine H_put (i := 23) 52 (v := .slice a1 bs.length cap1) rfl rfl (by kernel_rfl) (by kernel_rfl) (by kernel_rfl) (fun _ _ _ h => h) (Or.inl ⟨by rfl, fun w' hw' => ?_⟩) hS ?_
    · go_simp
    simp only [Act.put, List.setIfInBounds_toArray, List.set_cons_zero, List.set_cons_succ]
    refine H_put (i := 24) 53 (v := .string ⟨ts.toArray⟩) rfl rfl (by kernel_rfl) (by kernel_rfl) (by kernel_rfl) (fun _ _ _ h => h) (Or.inl ⟨by rfl, fun w' hw' => ?_⟩) hS ?_
    · go_simp
    simp only [Act.put, List.setIfInBounds_toArray, List.set_cons_zero, List.set_cons_succ]
    refine H_put (i := 27) 56 (v := .string ⟨bs.toArray⟩) rfl rfl (by kernel_rfl) (by kernel_rfl) (by kernel_rfl) (fun _ _ _ h => h) (Or.inl ⟨by rfl, fun w' hw' => ?_⟩) hS ?_
    · go_simp
    simp only [Act.put, List.setIfInBounds_toArray, List.set_cons_zero, List.set_cons_succ]
    refine H_put (i := 28) 57 (v := .string ⟨ts.toArray⟩) rfl rfl (by kernel_rfl) (by kernel_rfl) (by kernel_rfl) (fun _ _ _ h => h) (Or.inl ⟨by rfl, fun w' hw' => ?_⟩) hS ?_
    · go_simp
    simp only [Act.put, List.setIfInBounds_toArray, List.set_cons_zero, List.set_cons_succ]
    refine H_call (i := 25) 54 13 #[.slice a1 bs.length cap1, .string ⟨ts.toArray⟩] (by kernel_rfl) rfl rfl (by rfl) (by go_simp) (HT.out.s3 _ (Awk4.out)) ?_
    rintro e wk5 ⟨awk5, cwk5, rfl, Kwk5⟩
    have Awk5 := hid (show Adds w1 wk5 from Awk4.out.trans Kwk5.out.2)
    refine ⟨_, fun w' => Adds wk5 w', rfl, Touch.refl _ _, fun w' h => Kwk5.out.2.trans h, ?_⟩
    have hS : Adds wk5 wk5 := Touch.refl _ _
    simp only [Act.put, List.setIfInBounds_toArray, List.set_cons_zero, List.set_cons_succ]
    refine H_put (i := 26) 55 (v := .string ⟨x3.toArray⟩) rfl rfl (by kernel_rfl) (by kernel_rfl) (by kernel_rfl) (fun _ _ _ h => h) (Or.inl ⟨by rfl, fun w' hw' => ?_⟩) hS ?_
    · have hq := Kwk5.out.1 w' hw'; go_simp
    simp only [Act.put, List.setIfInBounds_toArray, List.set_cons_zero, List.set_cons_succ]
    refine H_call (i := 29) 58 14 #[.string ⟨ts.toArray⟩] (by kernel_rfl) rfl rfl (by rfl) (by go_simp) (HT.out.r3 _) ?_
    rintro e wk6 ⟨awk6, cwk6, rfl, Kwk6⟩
    have Awk6 := hid (show Adds w1 wk6 from Awk5.out.trans Kwk6.out.2)
    refine ⟨_, fun w' => Adds wk6 w', rfl, Touch.refl _ _, fun w' h => Kwk6.out.2.trans h, ?_⟩
    have hS : Adds wk6 wk6 := Touch.refl _ _
    simp only [Act.put, List.setIfInBounds_toArray, List.set_cons_zero, List.set_cons_succ]
    refine H_put (i := 30) 59 (v := .string ⟨y3.toArray⟩) rfl rfl (by kernel_rfl) (by kernel_rfl) (by kernel_rfl) (fun _ _ _ h => h) (Or.inl ⟨by rfl, fun w' hw' => ?_⟩) hS ?_
    · have hq := Kwk6.out.1 w' hw'; go_simp
    simp only [Act.put, List.setIfInBounds_toArray, List.set_cons_zero, List.set_cons_succ]
    refine H_put (i := 31) 60 (v := .string ⟨x3.toArray⟩) rfl rfl (by kernel_rfl) (by kernel_rfl) (by kernel_rfl) (fun _ _ _ h => h) (Or.inl ⟨by rfl, fun w' hw' => ?_⟩) hS ?_
    · go_simp; omega
    simp only [Act.put, List.setIfInBounds_toArray, List.set_cons_zero, List.set_cons_succ]
    refine H_put (i := 32) 61 (v := .bool true) rfl rfl (by kernel_rfl) (by kernel_rfl) (by kernel_rfl) (fun _ _ _ h => h) (Or.inl ⟨by rfl, fun w' hw' => ?_⟩) hS ?_
    · go_simp
    simp only [Act.put, List.setIfInBounds_toArray, List.set_cons_zero, List.set_cons_succ]
    refine H_put (i := 33) 62 (v := .bool true) rfl rfl (by kernel_rfl) (by kernel_rfl) (by kernel_rfl) (fun _ _ _ h => h) (Or.inl ⟨by rfl, fun w' hw' => ?_⟩) hS ?_
    · go_simp
    simp only [Act.put, List.setIfInBounds_toArray, List.set_cons_zero, List.set_cons_succ]
    refine H_put (i := 34) 15 (v := .bool true) rfl rfl (by kernel_rfl) (by kernel_rfl) (by kernel_rfl) (fun _ _ _ h => h) (Or.inl ⟨by rfl, fun w' hw' => ?_⟩) hS ?_
    · go_simp
    simp only [Act.put, List.setIfInBounds_toArray, List.set_cons_zero, List.set_cons_succ]
    refine wpAnyH_done (by kernel_rfl) ?_ _
    go_wp2_with fail
    go_meet
    case rel => exact ⟨rfl, Awk6.out⟩
  case rest =>
    obtain ⟨rfl, HWC⟩ := hcut
    go_upto_region 6 with fail
    have AD := hid (show Adds w1 wc.drew from HWC.out.drew)
    have hS := AD.out
    refine H_begin (S := fun w' => Adds w1 w') (by kernel_rfl) ?_
    refine H_put (i := 0) 63 (v := .bool true) rfl rfl (by kernel_rfl) (by kernel_rfl) (by kernel_rfl) (fun _ _ _ h => h) (Or.inl ⟨by rfl, fun w' hw' => ?_⟩) hS ?_
    · go_simp
    simp only [Act.put, List.setIfInBounds_toArray, List.set_cons_zero, List.set_cons_succ]
    refine H_put (i := 1) 64 (v := .bool true) rfl rfl (by kernel_rfl) (by kernel_rfl) (by kernel_rfl) (fun _ _ _ h => h) (Or.inl ⟨by rfl, fun w' hw' => ?_⟩) hS ?_
    · go_simp
    simp only [Act.put, List.setIfInBounds_toArray, List.set_cons_zero, List.set_cons_succ]
    refine H_put (i := 2) 65 (v := .slice a1 bs.length cap1) rfl rfl (by kernel_rfl) (by kernel_rfl) (by kernel_rfl) (fun _ _ _ h => h) (Or.inl ⟨by rfl, fun w' hw' => ?_⟩) hS ?_
    · go_simp
    simp only [Act.put, List.setIfInBounds_toArray, List.set_cons_zero, List.set_cons_succ]
    refine H_put (i := 3) 66 (v := .float .f64 b) rfl rfl (by kernel_rfl) (by kernel_rfl) (by kernel_rfl) (fun _ _ _ h => h) (Or.inl ⟨by rfl, fun w' hw' => ?_⟩) hS ?_
    · go_simp
    simp only [Act.put, List.setIfInBounds_toArray, List.set_cons_zero, List.set_cons_succ]
    refine H_put (i := 6) 69 (v := .string ⟨bs.toArray⟩) rfl rfl (by kernel_rfl) (by kernel_rfl) (by kernel_rfl) (fun _ _ _ h => h) (Or.inl ⟨by rfl, fun w' hw' => ?_⟩) hS ?_
    · go_simp
    simp only [Act.put, List.setIfInBounds_toArray, List.set_cons_zero, List.set_cons_succ]
    refine H_put (i := 7) 70 (v := .float .f64 b) rfl rfl (by kernel_rfl) (by kernel_rfl) (by kernel_rfl) (fun _ _ _ h => h) (Or.inl ⟨by rfl, fun w' hw' => ?_⟩) hS ?_
    · go_simp
    simp only [Act.put, List.setIfInBounds_toArray, List.set_cons_zero, List.set_cons_succ]
    refine H_call (i := 4) 67 15 #[.slice a1 bs.length cap1, .float .f64 b] (by kernel_rfl) rfl rfl (by rfl) (by go_simp) (HT.out.s4 _ (AD.out)) ?_
    rintro e wk1 ⟨awk1, cwk1, rfl, Kwk1⟩
    have Awk1 := hid (show Adds w1 wk1 from AD.out.trans Kwk1.out.2)
    refine ⟨_, fun w' => Adds wk1 w', rfl, Touch.refl _ _, fun w' h => Awk1.out.trans h, ?_⟩
    have hS : Adds wk1 wk1 := Touch.refl _ _
    simp only [Act.put, List.setIfInBounds_toArray, List.set_cons_zero, List.set_cons_succ]
    refine H_put (i := 5) 68 (v := .string ⟨x4.toArray⟩) rfl rfl (by kernel_rfl) (by kernel_rfl) (by kernel_rfl) (fun _ _ _ h => h) (Or.inl ⟨by rfl, fun w' hw' => ?_⟩) hS ?_
    · have hq := Kwk1.out.1 w' hw'; go_simp
    simp only [Act.put, List.setIfInBounds_toArray, List.set_cons_zero, List.set_cons_succ]
    refine H_call (i := 8) 71 16 #[.float .f64 b] (by kernel_rfl) rfl rfl (by rfl) (by go_simp) (HT.out.r4 _) ?_
    rintro e wk2 ⟨awk2, cwk2, rfl, Kwk2⟩
    have Awk2 := hid (show Adds w1 wk2 from Awk1.out.trans Kwk2.out.2)
    refine ⟨_, fun w' => Adds wk2 w', rfl, Touch.refl _ _, fun w' h => Kwk2.out.2.trans h, ?_⟩
    have hS : Adds wk2 wk2 := Touch.refl _ _
    simp only [Act.put, List.setIfInBounds_toArray, List.set_cons_zero, List.set_cons_succ]
    refine H_put (i := 9) 72 (v := .string ⟨y4.toArray⟩) rfl rfl (by kernel_rfl) (by kernel_rfl) (by kernel_rfl) (fun _ _ _ h => h) (Or.inl ⟨by rfl, fun w' hw' => ?_⟩) hS ?_
    · have hq := Kwk2.out.1 w' hw'; go_simp
    simp only [Act.put, List.setIfInBounds_toArray, List.set_cons_zero, List.set_cons_succ]
    refine H_put (i := 10) 73 (v := .string ⟨x4.toArray⟩) rfl rfl (by kernel_rfl) (by kernel_rfl) (by kernel_rfl) (fun _ _ _ h => h) (Or.inl ⟨by rfl, fun w' hw' => ?_⟩) hS ?_
    · go_simp; omega
    simp only [Act.put, List.setIfInBounds_toArray, List.set_cons_zero, List.set_cons_succ]
    refine H_put (i := 11) 74 (v := .bool true) rfl rfl (by kernel_rfl) (by kernel_rfl) (by kernel_rfl) (fun _ _ _ h => h) (Or.inl ⟨by rfl, fun w' hw' => ?_⟩) hS ?_
    · go_simp
    simp only [Act.put, List.setIfInBounds_toArray, List.set_cons_zero, List.set_cons_succ]
    refine H_put (i := 12) 75 (v := .bool true) rfl rfl (by kernel_rfl) (by kernel_rfl) (by kernel_rfl) (fun _ _ _ h => h) (Or.inl ⟨by rfl, fun w' hw' => ?_⟩) hS ?_
    · go_simp
    simp only [Act.put, List.setIfInBounds_toArray, List.set_cons_zero, List.set_cons_succ]
    refine H_put (i := 13) 76 (v := .bool true) rfl rfl (by kernel_rfl) (by kernel_rfl) (by kernel_rfl) (fun _ _ _ h => h) (Or.inl ⟨by rfl, fun w' hw' => ?_⟩) hS ?_
    · go_simp
    simp only [Act.put, List.setIfInBounds_toArray, List.set_cons_zero, List.set_cons_succ]
    refine H_put (i := 14) 77 (v := .slice a1 bs.length cap1) rfl rfl (by kernel_rfl) (by kernel_rfl) (by kernel_rfl) (fun _ _ _ h => h) (Or.inl ⟨by rfl, fun w' hw' => ?_⟩) hS ?_
    · go_simp
    simp only [Act.put, List.setIfInBounds_toArray, List.set_cons_zero, List.set_cons_succ]
    refine H_put (i := 15) 78 (v := .int .u64 (n : Int)) rfl rfl (by kernel_rfl) (by kernel_rfl) (by kernel_rfl) (fun _ _ _ h => h) (Or.inl ⟨by rfl, fun w' hw' => ?_⟩) hS ?_
    · go_simp
    simp only [Act.put, List.setIfInBounds_toArray, List.set_cons_zero, List.set_cons_succ]
    refine H_put (i := 16) 79 (v := .int .i64 size) rfl rfl (by kernel_rfl) (by kernel_rfl) (by kernel_rfl) (fun _ _ _ h => h) (Or.inl ⟨by rfl, fun w' hw' => ?_⟩) hS ?_
    · go_simp
    simp only [Act.put, List.setIfInBounds_toArray, List.set_cons_zero, List.set_cons_succ]
    refine H_put (i := 19) 82 (v := .string ⟨bs.toArray⟩) rfl rfl (by kernel_rfl) (by kernel_rfl) (by kernel_rfl) (fun _ _ _ h => h) (Or.inl ⟨by rfl, fun w' hw' => ?_⟩) hS ?_
    · go_simp
    simp only [Act.put, List.setIfInBounds_toArray, List.set_cons_zero, List.set_cons_succ]
    refine H_put (i := 20) 83 (v := .int .u64 (n : Int)) rfl rfl (by kernel_rfl) (by kernel_rfl) (by kernel_rfl) (fun _ _ _ h => h) (Or.inl ⟨by rfl, fun w' hw' => ?_⟩) hS ?_
    · go_simp
    simp only [Act.put, List.setIfInBounds_toArray, List.set_cons_zero, List.set_cons_succ]
    refine H_put (i := 21) 84 (v := .int .i64 size) rfl rfl (by kernel_rfl) (by kernel_rfl) (by kernel_rfl) (fun _ _ _ h => h) (Or.inl ⟨by rfl, fun w' hw' => ?_⟩) hS ?_
    · go_simp
    simp only [Act.put, List.setIfInBounds_toArray, List.set_cons_zero, List.set_cons_succ]
    refine H_call (i := 17) 80 17 #[.slice a1 bs.length cap1, .int .u64 (n : Int), .int .i64 size] (by kernel_rfl) rfl rfl (by rfl) (by go_simp) (HT.out.s5 _ (Awk2.out)) ?_
    rintro e wk3 ⟨awk3, cwk3, rfl, Kwk3⟩
    have Awk3 := hid (show Adds w1 wk3 from Awk2.out.trans Kwk3.out.2)
    refine ⟨_, fun w' => Adds wk3 w', rfl, Touch.refl _ _, fun w' h => Kwk3.out.2.trans h, ?_⟩
    have hS : Adds wk3 wk3 := Touch.refl _ _
    simp only [Act.put, List.setIfInBounds_toArray, List.set_cons_zero, List.set_cons_succ]
    refine H_put (i := 18) 81 (v := .string ⟨x5.toArray⟩) rfl rfl (by kernel_rfl) (by kernel_rfl) (by kernel_rfl) (fun _ _ _ h => h) (Or.inl ⟨by rfl, fun w' hw' => ?_⟩) hS ?_
    · have hq := Kwk3.out.1 w' hw'; go_simp
    simp only [Act.put, List.setIfInBounds_toArray, List.set_cons_zero, List.set_cons_succ]
    refine H_call (i := 22) 85 18 #[.int .u64 (n : Int), .int .i64 size] (by kernel_rfl) rfl rfl (by rfl) (by go_simp) (HT.out.r5 _) ?_
    rintro e wk4 ⟨awk4, cwk4, rfl, Kwk4⟩
    have Awk4 := hid (show Adds w1 wk4 from Awk3.out.trans Kwk4.out.2)
    refine ⟨_, fun w' => Adds wk4 w', rfl, Touch.refl _ _, fun w' h => Kwk4.out.2.trans h, ?_⟩
    have hS : Adds wk4 wk4 := Touch.refl _ _
    simp only [Act.put, List.setIfInBounds_toArray, List.set_cons_zero, List.set_cons_succ]
    refine H_put (i := 23) 86 (v := .string ⟨y5.toArray⟩) rfl rfl (by kernel_rfl) (by kernel_rfl) (by kernel_rfl) (fun _ _ _ h => h) (Or.inl ⟨by rfl, fun w' hw' => ?_⟩) hS ?_
    · have hq := Kwk4.out.1 w' hw'; go_simp
    simp only [Act.put, List.setIfInBounds_toArray, List.set_cons_zero, List.set_cons_succ]
    refine H_put (i := 24) 87 (v := .string ⟨x5.toArray⟩) rfl rfl (by kernel_rfl) (by kernel_rfl) (by kernel_rfl) (fun _ _ _ h => h) (Or.inl ⟨by rfl, fun w' hw' => ?_⟩) hS ?_
    · go_simp; omega
    simp only [Act.put, List.setIfInBounds_toArray, List.set_cons_zero, List.set_cons_succ]
    refine H_put (i := 25) 88 (v := .bool true) rfl rfl (by kernel_rfl) (by kernel_rfl) (by kernel_rfl) (fun _ _ _ h => h) (Or.inl ⟨by rfl, fun w' hw' => ?_⟩) hS ?_
    · go_simp
    simp only [Act.put, List.setIfInBounds_toArray, List.set_cons_zero, List.set_cons_succ]
    refine H_put (i := 26) 89 (v := .bool true) rfl rfl (by kernel_rfl) (by kernel_rfl) (by kernel_rfl) (fun _ _ _ h => h) (Or.inl ⟨by rfl, fun w' hw' => ?_⟩) hS ?_
    · go_simp
    simp only [Act.put, List.setIfInBounds_toArray, List.set_cons_zero, List.set_cons_succ]
    refine H_put (i := 27) 90 (v := .bool true) rfl rfl (by kernel_rfl) (by kernel_rfl) (by kernel_rfl) (fun _ _ _ h => h) (Or.inl ⟨by rfl, fun w' hw' => ?_⟩) hS ?_
    · go_simp
    simp only [Act.put, List.setIfInBounds_toArray, List.set_cons_zero, List.set_cons_succ]
    refine H_put (i := 28) 91 (v := .slice a1 bs.length cap1) rfl rfl (by kernel_rfl) (by kernel_rfl) (by kernel_rfl) (fun _ _ _ h => h) (Or.inl ⟨by rfl, fun w' hw' => ?_⟩) hS ?_
    · go_simp
    simp only [Act.put, List.setIfInBounds_toArray, List.set_cons_zero, List.set_cons_succ]
    refine H_put (i := 29) 92 (v := .string ⟨bs.toArray⟩) rfl rfl (by kernel_rfl) (by kernel_rfl) (by kernel_rfl) (fun _ _ _ h => h) (Or.inl ⟨by rfl, fun w' hw' => ?_⟩) hS ?_
    · have hq := HX.out w' (Awk4.out.trans hw'); go_simp
    simp only [Act.put, List.setIfInBounds_toArray, List.set_cons_zero, List.set_cons_succ]
    refine H_put (i := 30) 93 (v := .string ⟨bs.toArray⟩) rfl rfl (by kernel_rfl) (by kernel_rfl) (by kernel_rfl) (fun _ _ _ h => h) (Or.inl ⟨by rfl, fun w' hw' => ?_⟩) hS ?_
    · go_simp
    simp only [Act.put, List.setIfInBounds_toArray, List.set_cons_zero, List.set_cons_succ]
    refine H_put (i := 31) 94 (v := .bool true) rfl rfl (by kernel_rfl) (by kernel_rfl) (by kernel_rfl) (fun _ _ _ h => h) (Or.inl ⟨by rfl, fun w' hw' => ?_⟩) hS ?_
    · go_simp
    simp only [Act.put, List.setIfInBounds_toArray, List.set_cons_zero, List.set_cons_succ]
    refine H_put (i := 32) 95 (v := .bool true) rfl rfl (by kernel_rfl) (by kernel_rfl) (by kernel_rfl) (fun _ _ _ h => h) (Or.inl ⟨by rfl, fun w' hw' => ?_⟩) hS ?_
    · go_simp
    simp only [Act.put, List.setIfInBounds_toArray, List.set_cons_zero, List.set_cons_succ]
    refine H_put (i := 33) 96 (v := .bool true) rfl rfl (by kernel_rfl) (by kernel_rfl) (by kernel_rfl) (fun _ _ _ h => h) (Or.inl ⟨by rfl, fun w' hw' => ?_⟩) hS ?_
    · go_simp
    simp only [Act.put, List.setIfInBounds_toArray, List.set_cons_zero, List.set_cons_succ]
    refine H_call (i := 34) 97 19 #[] (by kernel_rfl) rfl rfl (by rfl) (by go_simp) (works_any _) ?_
    rintro e wk5 ⟨rfl, h1⟩
    have Awk5 := hid (Awk4.out.trans h1)
    refine ⟨_, fun w' => Adds wk5 w', rfl, Touch.refl _ _, fun w' h => h1.trans h, ?_⟩
    have hS : Adds wk5 wk5 := Touch.refl _ _
    simp only [Act.put, List.setIfInBounds_toArray, List.set_cons_zero, List.set_cons_succ]
    refine H_put (i := 35) 98 (v := .bool true) rfl rfl (by kernel_rfl) (by kernel_rfl) (by kernel_rfl) (fun _ _ _ h => h) (Or.inl ⟨by rfl, fun w' hw' => ?_⟩) hS ?_
    · go_simp
    simp only [Act.put, List.setIfInBounds_toArray, List.set_cons_zero, List.set_cons_succ]
    refine H_put (i := 36) 12 (v := .bool true) rfl rfl (by kernel_rfl) (by kernel_rfl) (by kernel_rfl) (fun _ _ _ h => h) (Or.inl ⟨by rfl, fun w' hw' => ?_⟩) hS ?_
    · go_simp
    simp only [Act.put, List.setIfInBounds_toArray, List.set_cons_zero, List.set_cons_succ]
    refine wpAnyH_done (by kernel_rfl) ?_ _
    go_wp2_with fail
    go_ret
    exact ⟨rfl, Q1.out.2.trans Awk5.out⟩
end Go.Proofs.Ytlpeejbgefbfeaa
