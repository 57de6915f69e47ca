/- Texts put together: RTorn, ROpen. -/
import Derived.Test.YtmmgfankbabfbaaDoorQ07
import Derived.Test.YtmmgfankbabfbaaDoorQ17
/- The reference's zero and Torn. -/
namespace Go.Proofs.YtmmgfankbabfbaaDoor
open Go.RowKit

set_option maxRecDepth 100000 in
set_option maxHeartbeats 1000000 in
theorem rzero_any (a : Option Addr) (cs : List UInt8) (cap : Nat) (w : World) (hA : At w a cs) (hl : cs.length ≤ 1000) (z : Bool) (hz : (!M.some0 cs) = z) : Calls Tryd.prog 85 #[.slice a cs.length cap] w (Tells (.bool z) w) := by
  have HA := hid hA
  have HZZ := hid hz
  clear hA hz
  go_enter Tryd.func85, Tryd.ntmps85
  go_wp2_with fail
  go_loopw [3] (fun iv wr => ∃ i : Nat, iv = .int .i64 (i : Int) ∧ i ≤ cs.length ∧ Hid (M.some0 (cs.take i) = false) ∧ wr = w) (fun iv _ => cs.length - (intOf iv).toNat)
  case atStart => exact ⟨0, rfl, Nat.zero_le _, hid (show M.some0 (cs.take 0) = false from rfl), rfl⟩
  case round =>
    obtain ⟨i, rfl, hi, HI, hw⟩ := hrel
    obtain rfl := hw.symm
    by_cases hlt : i < cs.length
    · have hltz : (i : Int) < (cs.length : Int) := by omega
      obtain ⟨c, hc⟩ : ∃ c, cs[i]? = some c := ⟨cs[i], List.getElem?_eq_getElem hlt⟩
      obtain ⟨b, o, ea, c0⟩ := HA.out i c hc
      subst ea
      obtain ⟨q, hq⟩ : ∃ q, (c != 0) = q := ⟨_, rfl⟩
      have HZ := hid (And.intro hq hc)
      clear hq hc
      cases q with
      | false =>
        obtain rfl : c = 0 := by simpa using HZ.out.1
        go_wp2_with fail
        go_roundw
        case rel => exact ⟨i + 1, by go_num, by omega, some0_take HZ.out.2 HI.out HZ.out.1, by first | rfl | trivial⟩
        case measure => simp [intOf]; omega
      | true =>
        have hne : ((c.toNat : Int) != 0) = true := bne_iff_ne.2 (fun e => by
          have h0 : c = 0 := UInt8.toNat_inj.1 (by simpa using (show c.toNat = 0 by omega))
          have := HZ.out.1
          rw [h0] at this
          cases this)
        go_wp2_with fail
        go_ret
        refine ⟨?_, rfl⟩
        rw [← HZZ.out, some0_yes HZ.out.2 HZ.out.1]; rfl
    · have hltz : ¬ (i : Int) < (cs.length : Int) := by omega
      have HN := hid (show M.some0 cs = false by have := HI.out; rw [List.take_of_length_le (by omega)] at this; exact this)
      go_wp2_with fail
      go_ret
      refine ⟨?_, rfl⟩
      rw [← HZZ.out, HN.out]; rfl

set_option maxRecDepth 100000 in
/-- A byte put behind bytes of one's own. -/
theorem own_snoc {w : World} {base : Nat} {v : Value} {k : List UInt8} {c : UInt8} {l : List UInt8} (hl : l = k ++ [c]) (h : w.ownsRow base 5 1 v (k.length + [c].length) (S k ++ S [c])) : w.ownsRow base 5 1 v l.length (S l) := by
  subst hl
  rw [List.length_append, S, List.map_append]; exact h
set_option maxRecDepth 100000 in
theorem drop_next {x : List UInt8} {j c : Nat} {u : UInt8} (h : x[j]? = some u) (hc : c ≤ j) : (x.take (j + 1)).drop c = (x.take j).drop c ++ [u] := by
  have hj := (List.getElem?_eq_some_iff.1 h).1
  rw [take_next h, List.drop_append_of_le_length (by rw [List.length_take]; omega)]
set_option maxRecDepth 100000 in
theorem drop_skip {x : List UInt8} {j c : Nat} (hc : j < c) : (x.take (j + 1)).drop c = (x.take j).drop c := by
  rw [List.drop_eq_nil_of_le (by rw [List.length_take]; omega), List.drop_eq_nil_of_le (by rw [List.length_take]; omega)]

end Go.Proofs.YtmmgfankbabfbaaDoor

/- The reference's Open. -/
namespace Go.Proofs.YtmmgfankbabfbaaDoor
open Go.RowKit

set_option maxRecDepth 100000 in
theorem fix_zero (k : Nat) : M.fix 0 k = List.replicate k 0 := by
  induction k with
  | zero => rfl
  | succ k ih => rw [M.fix_head, ih, List.replicate_succ]; simp
set_option maxRecDepth 100000 in
theorem unfix_zero (l : List UInt8) : M.unfix l = 0 ↔ M.some0 l = false := by
  constructor
  · intro h
    have := (M.fix_unfix l.length l rfl).1
    rw [h, fix_zero] at this
    rw [← this]; exact M.some0_rep _
  · intro h
    have e : l = List.replicate l.length 0 := by
      rw [List.eq_replicate_iff]
      refine ⟨rfl, fun c hc => ?_⟩
      unfold M.some0 at h
      rw [List.any_eq_false] at h
      simpa using h c hc
    rw [e, ← fix_zero, M.unfix_fix]; simp
set_option maxRecDepth 100000 in
theorem ropen_is (b o cap : Nat) (bs : List UInt8) (w : World) (hl : bs.length = 248) (hcap : 248 ≤ cap) (hA : At w (some ⟨b, o, none⟩) bs) (z : Int) (hz : openErr bs = z) :
    Calls Tryd.prog 86 #[.slice (some ⟨b, o, none⟩) 248 cap] w fun e w' => ((z = 0 ∧ e = .returned (.tuple #[.slice (some ⟨b, o, none⟩) 244 cap, .int .i64 0])) ∨ (z = 20 ∧ e = .returned (.tuple #[.slice none 0 0, .int .i64 20]))) ∧ Adds w w' := by
  subst hz
  have h4 : ¬ bs.length < 4 := by omega
  have hpre := hA.pre 244
  have hlt : (bs.take 244).length = 244 := by rw [List.length_take]; omega
  have hs := rseal_any (some ⟨b, o, none⟩) (bs.take 244) cap w.drew (by omega) (fun e => by cases e) (hpre.adds (Touch.refl _ w).drew)
  rw [hlt] at hs
  have hcv : ∀ w', Adds w w' → (convert 91 9 (.slice (some ⟨b, o, none⟩) (244 + 4) cap)).run Tryd.prog w' = .ok (.string ⟨bs.toArray⟩) w' := by
    intro w' h
    have := conv_at w' _ bs cap (hA.adds h)
    rw [hl] at this
    exact this
  have hcall := ropen_long (some ⟨b, o, none⟩) 244 cap ⟨bs.toArray⟩ ⟨(sealed (bs.take 244)).toArray⟩ w (by omega) (by omega) hcv (by
    refine hs.mono ?_
    rintro e w' ⟨g, cap2, rfl, hg, hown, hA'⟩
    rw [hlt] at hown
    refine ⟨g, cap2, by rw [hlt], ?_, (Touch.refl _ w).drew.trans hA'⟩
    have := conv_at w' _ _ cap2 (At.own hown)
    rw [len_sealed, hlt] at this
    exact this)
  refine hcall.mono ?_
  rintro e w' ⟨h, hA'⟩
  have hstr : ∀ {x y : List UInt8}, ((⟨x.toArray⟩ : ByteArray) = ⟨y.toArray⟩) ↔ x = y := by
    intro x y
    constructor
    · intro h
      have := congrArg (fun b => b.data.toList) h
      simpa using this
    · intro h; rw [h]
  have h244 : bs.length - 4 = 244 := by omega
  rcases h with ⟨he, rfl⟩ | ⟨hne, rfl⟩
  · exact ⟨.inl ⟨by rw [openErr, if_neg h4, h244, if_pos (hstr.1 he)], rfl⟩, hA'⟩
  · exact ⟨.inr ⟨by rw [openErr, if_neg h4, h244, if_neg (fun h => hne (hstr.2 h))], rfl⟩, hA'⟩
set_option maxRecDepth 100000 in
theorem ropen_good (b o cap : Nat) (bs : List UInt8) (w : World) (hl : bs.length = 248) (hcap : 248 ≤ cap) (hA : At w (some ⟨b, o, none⟩) bs) (hz : openErr bs = 0) :
    Calls Tryd.prog 86 #[.slice (some ⟨b, o, none⟩) 248 cap] w (Adding (.tuple #[.slice (some ⟨b, o, none⟩) 244 cap, .int .i64 0]) w) := by
  refine (ropen_is b o cap bs w hl hcap hA 0 hz).mono ?_
  rintro e w' ⟨h | h, hA'⟩
  · exact ⟨h.2, hA'⟩
  · exact absurd h.1 (by decide)
set_option maxRecDepth 100000 in
theorem ropen_no (b o cap : Nat) (bs : List UInt8) (w : World) (hl : bs.length = 248) (hcap : 248 ≤ cap) (hA : At w (some ⟨b, o, none⟩) bs) (hz : openErr bs = 20) :
    Calls Tryd.prog 86 #[.slice (some ⟨b, o, none⟩) 248 cap] w (Adding (.tuple #[.slice none 0 0, .int .i64 20]) w) := by
  refine (ropen_is b o cap bs w hl hcap hA 20 hz).mono ?_
  rintro e w' ⟨h | h, hA'⟩
  · exact absurd h.1 (by decide)
  · exact ⟨h.2, hA'⟩
set_option maxRecDepth 100000 in
theorem suf_run (b o len cap m : Nat) (hm : m ≤ len) (hc : m < cap) (w : World) : (Instr.sliceAt 91 (.slice (some ⟨b, o, none⟩) len cap) (some (.int .i64 (m : Int))) none none).run Tryd.prog w = .ok (.slice (some ⟨b, o + m, none⟩) (len - m) (cap - m)) w := by
  rw [run_suf _ len cap m hm w]
  unfold sufAt
  rw [if_neg (by omega), Option.map_some, Addr.add_mid]
set_option maxRecDepth 100000 in
theorem mid_run (b o len cap l h : Nat) (hl : l ≤ h) (hc : h ≤ cap) (hlc : l < cap) (w : World) : (Instr.sliceAt 91 (.slice (some ⟨b, o, none⟩) len cap) (some (.int .i64 (l : Int))) (some (.int .i64 (h : Int))) none).run Tryd.prog w = .ok (.slice (some ⟨b, o + l, none⟩) (h - l) (cap - l)) w := by
  have he : Tryd.prog.elem 91 = 5 := by kernel_rfl
  rw [run_sliceAt_slice w 91 _ _ _ _ Tryd.underlying91, run_slice_lh w 91 (some ⟨b, o, none⟩) len cap Tryd.underlying91 .i64 .i64 l h (by omega) (by omega) (by omega), he, sz5]
  simp only [Result.andThen, sliced, Int.toNat_natCast, Nat.mul_one]
  rw [if_neg (by omega), Option.map_some, Addr.add_mid]

/-- What the reference's Open tells. -/
def PRSO (w : World) (bs : List UInt8) (e : Ending) (w' : World) : Prop := ∃ av cv, e = .returned (.tuple #[.int .u64 (M.oMark bs : Int), .int .u8 ((M.oKind bs).toNat : Int), .slice av (M.oBody bs).length cv, .int .i64 (M.oErr bs : Int)]) ∧ At w' av (M.oBody bs) ∧ Adds w w'
/-- An error alone. -/
def PBad (w : World) (z : Int) (e : Ending) (w' : World) : Prop := e = .returned (.tuple #[.int .u64 0, .int .u8 0, .slice none 0 0, .int .i64 z]) ∧ Adds w w'
set_option maxRecDepth 100000 in
theorem PRSO.bad {w : World} {bs : List UInt8} {z : Int} {e : Ending} {w' : World} (hz : (M.oErr bs : Int) = z) (h0 : z ≠ 0) (h : PBad w z e w') : PRSO w bs e w' := by
  obtain ⟨rfl, hA⟩ := h
  obtain ⟨h1, h2, h3⟩ := M.refused (b := bs) (fun c => h0 (by rw [← hz, c]; rfl))
  exact ⟨none, 0, by rw [h1, h2, h3, hz]; rfl, by rw [h3]; exact At.nil _ _, hA⟩
set_option maxRecDepth 100000 in
set_option maxHeartbeats 1000000 in
theorem rsopen_long (a : Option Addr) (n cap : Nat) (w : World) (h : n ≠ 256) : Calls Tryd.prog 68 #[.slice a n cap] w (PBad w 21) := by
  have h' : ¬ (n : Int) = 256 := by omega
  go_enter Tryd.func68, Tryd.ntmps68
  go_wp2
  (try simp only [Exit.inBlock, Exit.then]); refine bodyPost_ret (res4 rfl _ _ _) rfl ?_
  exact ⟨rfl, Touch.refl _ _⟩
set_option maxRecDepth 100000 in
set_option maxHeartbeats 2000000 in
theorem rsopen40 (bb o cap : Nat) (bs : List UInt8) (w : World) (hl : bs.length = 256) (hcap : 256 ≤ cap) (hA : At w (some ⟨bb, o, none⟩) bs) (h : M.some0 (bs.take 8) = false) : Calls Tryd.prog 68 #[.slice (some ⟨bb, o, none⟩) 256 cap] w (PBad w 40) := by
  have s1 : ∀ w, (Instr.sliceAt 91 (.slice (some ⟨bb, o, none⟩) 256 cap) none (some (.int .i64 8)) none).run Tryd.prog w = .ok (.slice (some ⟨bb, o, none⟩) 8 cap) w := fun w => run_pre (some ⟨bb, o, none⟩) 256 cap 8 (by omega) w
  have l8 : (bs.take 8).length = 8 := by rw [List.length_take]; omega
  have hZ0 := rzero_any (some ⟨bb, o, none⟩) (bs.take 8) cap w (hA.pre 8) (by omega) _ rfl
  rw [l8] at hZ0
  rw [h] at hZ0
  have HZ0 := hid hZ0
  clear hZ0 hA h l8
  go_enter Tryd.func68, Tryd.ntmps68
  go_wp2_with (first | (go_at_call 85; refine HZ0.out.mono ?_; rintro e _ ⟨rfl, hw⟩; rw [hw]; clear hw))
  (try simp only [Exit.inBlock, Exit.then]); refine bodyPost_ret (res4 rfl _ _ _) rfl ?_
  exact ⟨rfl, Touch.refl _ _⟩
set_option maxRecDepth 100000 in
set_option maxHeartbeats 2000000 in
theorem rsopen23 (bb o cap : Nat) (bs : List UInt8) (w : World) (hl : bs.length = 256) (hcap : 256 ≤ cap) (hA : At w (some ⟨bb, o, none⟩) bs) (h : M.some0 (bs.take 8) = true) (hne : bs.take 8 ≠ bs.drop 248) : Calls Tryd.prog 68 #[.slice (some ⟨bb, o, none⟩) 256 cap] w (PBad w 23) := by
  have s1 : ∀ w, (Instr.sliceAt 91 (.slice (some ⟨bb, o, none⟩) 256 cap) none (some (.int .i64 8)) none).run Tryd.prog w = .ok (.slice (some ⟨bb, o, none⟩) 8 cap) w := fun w => run_pre (some ⟨bb, o, none⟩) 256 cap 8 (by omega) w
  have l8 : (bs.take 8).length = 8 := by rw [List.length_take]; omega
  have hZ0 := rzero_any (some ⟨bb, o, none⟩) (bs.take 8) cap w (hA.pre 8) (by omega) _ rfl
  rw [l8] at hZ0
  rw [h] at hZ0
  have HZ0 := hid hZ0
  have HA := hid (And.intro hl (And.intro hcap hA))
  have s2 : ∀ w, (Instr.sliceAt 91 (.slice (some ⟨bb, o, none⟩) 256 cap) (some (.int .i64 248)) none none).run Tryd.prog w = .ok (.slice (some ⟨bb, o + 248, none⟩) 8 (cap - 248)) w := fun w => suf_run bb o 256 cap 248 (by omega) (by omega) w
  have l248 : (bs.drop 248).length = 8 := by rw [List.length_drop]; omega
  have HV1 := hid (show ∀ w', Adds w w' → (convert 91 9 (.slice (some ⟨bb, o, none⟩) 8 cap)).run Tryd.prog w' = .ok (.string ⟨(bs.take 8).toArray⟩) w' from fun w' hw => by have := conv_at w' _ _ cap ((hA.pre 8).adds hw); rwa [l8] at this)
  have HV2 := hid (show ∀ w', Adds w w' → (convert 91 9 (.slice (some ⟨bb, o + 248, none⟩) 8 (cap - 248))).run Tryd.prog w' = .ok (.string ⟨(bs.drop 248).toArray⟩) w' from fun w' hw => by have := conv_at w' _ _ (cap - 248) ((hA.suf 248).adds hw); rwa [l248] at this)
  have hq : ((⟨(bs.take 8).toArray⟩ : ByteArray).toList == (⟨(bs.drop 248).toArray⟩ : ByteArray).toList) = false := by
    rw [ByteArray.toList_eq, ByteArray.toList_eq, beq_eq_false_iff_ne]
    exact fun e => hne (by simpa using e)
  generalize (⟨(bs.take 8).toArray⟩ : ByteArray) = X1 at HV1 hq
  generalize (⟨(bs.drop 248).toArray⟩ : ByteArray) = X2 at HV2 hq
  clear hZ0 hA h l8 l248 hne hl hcap
  go_enter Tryd.func68, Tryd.ntmps68
  go_upto_region 5 with (first | (go_at_call 85; refine HZ0.out.mono ?_; rintro e _ ⟨rfl, hw⟩; rw [hw]; clear hw))
  refine H_begin (S := fun w' => Adds w w') (by kernel_rfl) ?_
  have hS : Adds w w.drew := (Touch.refl _ w).drew
  refine H_put (i := 0) 16 (v := .slice (some ⟨bb, o, none⟩) 256 cap) rfl rfl (by kernel_rfl) (by kernel_rfl) (by kernel_rfl) (fun _ _ _ h => h) (Or.inl ⟨by rfl, fun w' hw' => ?_⟩) hS ?_
  · go_simp
  simp only [Act.put, List.setIfInBounds_toArray, List.set_cons_zero, List.set_cons_succ]
  refine H_put (i := 1) 17 (v := .slice (some ⟨bb, o, none⟩) 8 cap) rfl rfl (by kernel_rfl) (by kernel_rfl) (by kernel_rfl) (fun _ _ _ h => h) (Or.inl ⟨by rfl, fun w' hw' => ?_⟩) hS ?_
  · go_simp
  simp only [Act.put, List.setIfInBounds_toArray, List.set_cons_zero, List.set_cons_succ]
  refine H_put (i := 3) 19 (v := .slice (some ⟨bb, o, none⟩) 256 cap) rfl rfl (by kernel_rfl) (by kernel_rfl) (by kernel_rfl) (fun _ _ _ h => h) (Or.inl ⟨by rfl, fun w' hw' => ?_⟩) hS ?_
  · go_simp
  simp only [Act.put, List.setIfInBounds_toArray, List.set_cons_zero, List.set_cons_succ]
  refine H_put (i := 4) 20 (v := .slice (some ⟨bb, o + 248, none⟩) 8 (cap - 248)) rfl rfl (by kernel_rfl) (by kernel_rfl) (by kernel_rfl) (fun _ _ _ h => h) (Or.inl ⟨by rfl, fun w' hw' => ?_⟩) hS ?_
  · go_simp
  simp only [Act.put, List.setIfInBounds_toArray, List.set_cons_zero, List.set_cons_succ]
  refine H_put (i := 2) 18 (v := .string X1) rfl rfl (by kernel_rfl) (by kernel_rfl) (by kernel_rfl) (fun _ _ _ h => h) (Or.inl ⟨by rfl, fun w' hw' => ?_⟩) hS ?_
  · have hcv := HV1.out w' hw'; go_simp
  simp only [Act.put, List.setIfInBounds_toArray, List.set_cons_zero, List.set_cons_succ]
  refine H_put (i := 5) 21 (v := .string X2) rfl rfl (by kernel_rfl) (by kernel_rfl) (by kernel_rfl) (fun _ _ _ h => h) (Or.inl ⟨by rfl, fun w' hw' => ?_⟩) hS ?_
  · have hcv := HV2.out w' hw'; go_simp
  simp only [Act.put, List.setIfInBounds_toArray, List.set_cons_zero, List.set_cons_succ]
  refine H_put (i := 6) 22 (v := .bool true) rfl rfl (by kernel_rfl) (by kernel_rfl) (by kernel_rfl) (fun _ _ _ h => h) (Or.inl ⟨by rfl, fun w' hw' => ?_⟩) hS ?_
  · go_simp
  simp only [Act.put, List.setIfInBounds_toArray, List.set_cons_zero, List.set_cons_succ]
  refine wpAnyH_done (by kernel_rfl) ?_ _
  go_wp2
  (try simp only [Exit.inBlock, Exit.then]); refine bodyPost_ret (res4 rfl _ _ _) rfl ?_
  exact ⟨rfl, (Touch.refl _ w).drew⟩
set_option maxRecDepth 100000 in
set_option maxHeartbeats 2000000 in
theorem rsopen20 (bb o cap : Nat) (bs : List UInt8) (w : World) (hl : bs.length = 256) (hcap : 256 ≤ cap) (hA : At w (some ⟨bb, o, none⟩) bs) (h : M.some0 (bs.take 8) = true) (heq : bs.take 8 = bs.drop 248) (ho : openErr (bs.take 248) = 20) : Calls Tryd.prog 68 #[.slice (some ⟨bb, o, none⟩) 256 cap] w (PBad w 20) := by
  have s1 : ∀ w, (Instr.sliceAt 91 (.slice (some ⟨bb, o, none⟩) 256 cap) none (some (.int .i64 8)) none).run Tryd.prog w = .ok (.slice (some ⟨bb, o, none⟩) 8 cap) w := fun w => run_pre (some ⟨bb, o, none⟩) 256 cap 8 (by omega) w
  have l8 : (bs.take 8).length = 8 := by rw [List.length_take]; omega
  have hZ0 := rzero_any (some ⟨bb, o, none⟩) (bs.take 8) cap w (hA.pre 8) (by omega) _ rfl
  rw [l8] at hZ0
  rw [h] at hZ0
  have HZ0 := hid hZ0
  have HA := hid (And.intro hl (And.intro hcap hA))
  have s2 : ∀ w, (Instr.sliceAt 91 (.slice (some ⟨bb, o, none⟩) 256 cap) (some (.int .i64 248)) none none).run Tryd.prog w = .ok (.slice (some ⟨bb, o + 248, none⟩) 8 (cap - 248)) w := fun w => suf_run bb o 256 cap 248 (by omega) (by omega) w
  have l248 : (bs.drop 248).length = 8 := by rw [List.length_drop]; omega
  have HV1 := hid (show ∀ w', Adds w w' → (convert 91 9 (.slice (some ⟨bb, o, none⟩) 8 cap)).run Tryd.prog w' = .ok (.string ⟨(bs.take 8).toArray⟩) w' from fun w' hw => by have := conv_at w' _ _ cap ((hA.pre 8).adds hw); rwa [l8] at this)
  have HV2 := hid (show ∀ w', Adds w w' → (convert 91 9 (.slice (some ⟨bb, o + 248, none⟩) 8 (cap - 248))).run Tryd.prog w' = .ok (.string ⟨(bs.drop 248).toArray⟩) w' from fun w' hw => by have := conv_at w' _ _ (cap - 248) ((hA.suf 248).adds hw); rwa [l248] at this)
  rw [← heq] at HV2
  generalize (⟨(bs.take 8).toArray⟩ : ByteArray) = X1 at HV1 HV2
  have D1 := hid (show Adds w w.drew from (Touch.refl _ w).drew)
  have s3 : ∀ w, (Instr.sliceAt 91 (.slice (some ⟨bb, o, none⟩) 256 cap) none (some (.int .i64 248)) none).run Tryd.prog w = .ok (.slice (some ⟨bb, o, none⟩) 248 cap) w := fun w => run_pre (some ⟨bb, o, none⟩) 256 cap 248 (by omega) w
  have HO := hid (ropen_no bb o cap (bs.take 248) w.drew (by rw [List.length_take]; omega) (by omega) ((hA.pre 248).adds D1.out) ho)
  clear hZ0 hA h l8 l248 heq ho hl hcap
  go_enter Tryd.func68, Tryd.ntmps68
  go_upto_region 5 with (first | (go_at_call 85; refine HZ0.out.mono ?_; rintro e _ ⟨rfl, hw⟩; rw [hw]; clear hw))
  refine H_begin (S := fun w' => Adds w w') (by kernel_rfl) ?_
  have hS : Adds w w.drew := (Touch.refl _ w).drew
  refine H_put (i := 0) 16 (v := .slice (some ⟨bb, o, none⟩) 256 cap) rfl rfl (by kernel_rfl) (by kernel_rfl) (by kernel_rfl) (fun _ _ _ h => h) (Or.inl ⟨by rfl, fun w' hw' => ?_⟩) hS ?_
  · go_simp
  simp only [Act.put, List.setIfInBounds_toArray, List.set_cons_zero, List.set_cons_succ]
  refine H_put (i := 1) 17 (v := .slice (some ⟨bb, o, none⟩) 8 cap) rfl rfl (by kernel_rfl) (by kernel_rfl) (by kernel_rfl) (fun _ _ _ h => h) (Or.inl ⟨by rfl, fun w' hw' => ?_⟩) hS ?_
  · go_simp
  simp only [Act.put, List.setIfInBounds_toArray, List.set_cons_zero, List.set_cons_succ]
  refine H_put (i := 3) 19 (v := .slice (some ⟨bb, o, none⟩) 256 cap) rfl rfl (by kernel_rfl) (by kernel_rfl) (by kernel_rfl) (fun _ _ _ h => h) (Or.inl ⟨by rfl, fun w' hw' => ?_⟩) hS ?_
  · go_simp
  simp only [Act.put, List.setIfInBounds_toArray, List.set_cons_zero, List.set_cons_succ]
  refine H_put (i := 4) 20 (v := .slice (some ⟨bb, o + 248, none⟩) 8 (cap - 248)) rfl rfl (by kernel_rfl) (by kernel_rfl) (by kernel_rfl) (fun _ _ _ h => h) (Or.inl ⟨by rfl, fun w' hw' => ?_⟩) hS ?_
  · go_simp
  simp only [Act.put, List.setIfInBounds_toArray, List.set_cons_zero, List.set_cons_succ]
  refine H_put (i := 2) 18 (v := .string X1) rfl rfl (by kernel_rfl) (by kernel_rfl) (by kernel_rfl) (fun _ _ _ h => h) (Or.inl ⟨by rfl, fun w' hw' => ?_⟩) hS ?_
  · have hcv := HV1.out w' hw'; go_simp
  simp only [Act.put, List.setIfInBounds_toArray, List.set_cons_zero, List.set_cons_succ]
  refine H_put (i := 5) 21 (v := .string X1) rfl rfl (by kernel_rfl) (by kernel_rfl) (by kernel_rfl) (fun _ _ _ h => h) (Or.inl ⟨by rfl, fun w' hw' => ?_⟩) hS ?_
  · have hcv := HV2.out w' hw'; go_simp
  simp only [Act.put, List.setIfInBounds_toArray, List.set_cons_zero, List.set_cons_succ]
  refine H_put (i := 6) 22 (v := .bool false) rfl rfl (by kernel_rfl) (by kernel_rfl) (by kernel_rfl) (fun _ _ _ h => h) (Or.inl ⟨by rfl, fun w' hw' => ?_⟩) hS ?_
  · go_simp
  simp only [Act.put, List.setIfInBounds_toArray, List.set_cons_zero, List.set_cons_succ]
  refine wpAnyH_done (by kernel_rfl) ?_ _
  clear HV1 HV2
  go_wp2_with (first | (go_at_call 86; refine HO.out.mono ?_; rintro e w2 ⟨rfl, hA⟩; have A2 := hid (D1.out.trans hA); clear hA))
  (try simp only [Exit.inBlock, Exit.then]); refine bodyPost_ret (res4 rfl _ _ _) rfl ?_
  exact ⟨rfl, A2.out⟩
set_option maxRecDepth 100000 in
set_option maxHeartbeats 2000000 in
theorem rsopen22k (bb o cap : Nat) (bs : List UInt8) (w : World) (hl : bs.length = 256) (hcap : 256 ≤ cap) (hA : At w (some ⟨bb, o, none⟩) bs) (h : M.some0 (bs.take 8) = true) (heq : bs.take 8 = bs.drop 248) (ho : openErr (bs.take 248) = 0) (hk : M.kindOf bs = 0) : Calls Tryd.prog 68 #[.slice (some ⟨bb, o, none⟩) 256 cap] w (PBad w 22) := by
  have s1 : ∀ w, (Instr.sliceAt 91 (.slice (some ⟨bb, o, none⟩) 256 cap) none (some (.int .i64 8)) none).run Tryd.prog w = .ok (.slice (some ⟨bb, o, none⟩) 8 cap) w := fun w => run_pre (some ⟨bb, o, none⟩) 256 cap 8 (by omega) w
  have l8 : (bs.take 8).length = 8 := by rw [List.length_take]; omega
  have hZ0 := rzero_any (some ⟨bb, o, none⟩) (bs.take 8) cap w (hA.pre 8) (by omega) _ rfl
  rw [l8] at hZ0
  rw [h] at hZ0
  have HZ0 := hid hZ0
  have HA := hid (And.intro hl (And.intro hcap hA))
  have s2 : ∀ w, (Instr.sliceAt 91 (.slice (some ⟨bb, o, none⟩) 256 cap) (some (.int .i64 248)) none none).run Tryd.prog w = .ok (.slice (some ⟨bb, o + 248, none⟩) 8 (cap - 248)) w := fun w => suf_run bb o 256 cap 248 (by omega) (by omega) w
  have l248 : (bs.drop 248).length = 8 := by rw [List.length_drop]; omega
  have HV1 := hid (show ∀ w', Adds w w' → (convert 91 9 (.slice (some ⟨bb, o, none⟩) 8 cap)).run Tryd.prog w' = .ok (.string ⟨(bs.take 8).toArray⟩) w' from fun w' hw => by have := conv_at w' _ _ cap ((hA.pre 8).adds hw); rwa [l8] at this)
  have HV2 := hid (show ∀ w', Adds w w' → (convert 91 9 (.slice (some ⟨bb, o + 248, none⟩) 8 (cap - 248))).run Tryd.prog w' = .ok (.string ⟨(bs.drop 248).toArray⟩) w' from fun w' hw => by have := conv_at w' _ _ (cap - 248) ((hA.suf 248).adds hw); rwa [l248] at this)
  rw [← heq] at HV2
  generalize (⟨(bs.take 8).toArray⟩ : ByteArray) = X1 at HV1 HV2
  have D1 := hid (show Adds w w.drew from (Touch.refl _ w).drew)
  have s3 : ∀ w, (Instr.sliceAt 91 (.slice (some ⟨bb, o, none⟩) 256 cap) none (some (.int .i64 248)) none).run Tryd.prog w = .ok (.slice (some ⟨bb, o, none⟩) 248 cap) w := fun w => run_pre (some ⟨bb, o, none⟩) 256 cap 248 (by omega) w
  have HO := hid (ropen_good bb o cap (bs.take 248) w.drew (by rw [List.length_take]; omega) (by omega) ((hA.pre 248).adds D1.out) ho)
  have H8 := hid (show ∀ w', Adds w w' → w'.cell? ⟨bb, o + 8, none⟩ = some (.int .u8 ((M.kindOf bs).toNat : Int)) from fun w' hw => by
    obtain ⟨b', o', e, hc⟩ := (hA.adds hw) 8 _ (get_of (by omega))
    obtain ⟨rfl, rfl⟩ : bb = b' ∧ o = o' := by simpa using e
    exact hc)
  have H9 := hid (show ∀ w', Adds w w' → w'.cell? ⟨bb, o + 9, none⟩ = some (.int .u8 (M.lenOf bs : Int)) from fun w' hw => by
    obtain ⟨b', o', e, hc⟩ := (hA.adds hw) 9 _ (get_of (by omega))
    obtain ⟨rfl, rfl⟩ : bb = b' ∧ o = o' := by simpa using e
    exact hc)
  have hln : M.lenOf bs < 256 := (bs.getD 9 0).toNat_lt
  rw [hk] at H8
  clear hZ0 hA h l8 l248 heq ho hl hcap hk
  generalize M.lenOf bs = ln at *
  go_enter Tryd.func68, Tryd.ntmps68
  go_upto_region 5 with (first | (go_at_call 85; refine HZ0.out.mono ?_; rintro e _ ⟨rfl, hw⟩; rw [hw]; clear hw))
  refine H_begin (S := fun w' => Adds w w') (by kernel_rfl) ?_
  have hS : Adds w w.drew := (Touch.refl _ w).drew
  refine H_put (i := 0) 16 (v := .slice (some ⟨bb, o, none⟩) 256 cap) rfl rfl (by kernel_rfl) (by kernel_rfl) (by kernel_rfl) (fun _ _ _ h => h) (Or.inl ⟨by rfl, fun w' hw' => ?_⟩) hS ?_
  · go_simp
  simp only [Act.put, List.setIfInBounds_toArray, List.set_cons_zero, List.set_cons_succ]
  refine H_put (i := 1) 17 (v := .slice (some ⟨bb, o, none⟩) 8 cap) rfl rfl (by kernel_rfl) (by kernel_rfl) (by kernel_rfl) (fun _ _ _ h => h) (Or.inl ⟨by rfl, fun w' hw' => ?_⟩) hS ?_
  · go_simp
  simp only [Act.put, List.setIfInBounds_toArray, List.set_cons_zero, List.set_cons_succ]
  refine H_put (i := 3) 19 (v := .slice (some ⟨bb, o, none⟩) 256 cap) rfl rfl (by kernel_rfl) (by kernel_rfl) (by kernel_rfl) (fun _ _ _ h => h) (Or.inl ⟨by rfl, fun w' hw' => ?_⟩) hS ?_
  · go_simp
  simp only [Act.put, List.setIfInBounds_toArray, List.set_cons_zero, List.set_cons_succ]
  refine H_put (i := 4) 20 (v := .slice (some ⟨bb, o + 248, none⟩) 8 (cap - 248)) rfl rfl (by kernel_rfl) (by kernel_rfl) (by kernel_rfl) (fun _ _ _ h => h) (Or.inl ⟨by rfl, fun w' hw' => ?_⟩) hS ?_
  · go_simp
  simp only [Act.put, List.setIfInBounds_toArray, List.set_cons_zero, List.set_cons_succ]
  refine H_put (i := 2) 18 (v := .string X1) rfl rfl (by kernel_rfl) (by kernel_rfl) (by kernel_rfl) (fun _ _ _ h => h) (Or.inl ⟨by rfl, fun w' hw' => ?_⟩) hS ?_
  · have hcv := HV1.out w' hw'; go_simp
  simp only [Act.put, List.setIfInBounds_toArray, List.set_cons_zero, List.set_cons_succ]
  refine H_put (i := 5) 21 (v := .string X1) rfl rfl (by kernel_rfl) (by kernel_rfl) (by kernel_rfl) (fun _ _ _ h => h) (Or.inl ⟨by rfl, fun w' hw' => ?_⟩) hS ?_
  · have hcv := HV2.out w' hw'; go_simp
  simp only [Act.put, List.setIfInBounds_toArray, List.set_cons_zero, List.set_cons_succ]
  refine H_put (i := 6) 22 (v := .bool false) rfl rfl (by kernel_rfl) (by kernel_rfl) (by kernel_rfl) (fun _ _ _ h => h) (Or.inl ⟨by rfl, fun w' hw' => ?_⟩) hS ?_
  · go_simp
  simp only [Act.put, List.setIfInBounds_toArray, List.set_cons_zero, List.set_cons_succ]
  refine wpAnyH_done (by kernel_rfl) ?_ _
  clear HV1 HV2
  go_wp2_with (first | (go_at_call 86; refine HO.out.mono ?_; rintro e w2 ⟨rfl, hA⟩; have A2 := hid (D1.out.trans hA); have c8 := H8.out w2 A2.out; have c9 := H9.out w2 A2.out; clear hA))
  (try simp only [Exit.inBlock, Exit.then]); refine bodyPost_ret (res4 rfl _ _ _) rfl ?_
  exact ⟨rfl, A2.out⟩
set_option maxRecDepth 100000 in
set_option maxHeartbeats 2000000 in
theorem rsopen22l (bb o cap : Nat) (bs : List UInt8) (w : World) (hl : bs.length = 256) (hcap : 256 ≤ cap) (hA : At w (some ⟨bb, o, none⟩) bs) (h : M.some0 (bs.take 8) = true) (heq : bs.take 8 = bs.drop 248) (ho : openErr (bs.take 248) = 0) (hk : M.kindOf bs ≠ 0) (hg : 233 < M.lenOf bs) : Calls Tryd.prog 68 #[.slice (some ⟨bb, o, none⟩) 256 cap] w (PBad w 22) := by
  have s1 : ∀ w, (Instr.sliceAt 91 (.slice (some ⟨bb, o, none⟩) 256 cap) none (some (.int .i64 8)) none).run Tryd.prog w = .ok (.slice (some ⟨bb, o, none⟩) 8 cap) w := fun w => run_pre (some ⟨bb, o, none⟩) 256 cap 8 (by omega) w
  have l8 : (bs.take 8).length = 8 := by rw [List.length_take]; omega
  have hZ0 := rzero_any (some ⟨bb, o, none⟩) (bs.take 8) cap w (hA.pre 8) (by omega) _ rfl
  rw [l8] at hZ0
  rw [h] at hZ0
  have HZ0 := hid hZ0
  have HA := hid (And.intro hl (And.intro hcap hA))
  have s2 : ∀ w, (Instr.sliceAt 91 (.slice (some ⟨bb, o, none⟩) 256 cap) (some (.int .i64 248)) none none).run Tryd.prog w = .ok (.slice (some ⟨bb, o + 248, none⟩) 8 (cap - 248)) w := fun w => suf_run bb o 256 cap 248 (by omega) (by omega) w
  have l248 : (bs.drop 248).length = 8 := by rw [List.length_drop]; omega
  have HV1 := hid (show ∀ w', Adds w w' → (convert 91 9 (.slice (some ⟨bb, o, none⟩) 8 cap)).run Tryd.prog w' = .ok (.string ⟨(bs.take 8).toArray⟩) w' from fun w' hw => by have := conv_at w' _ _ cap ((hA.pre 8).adds hw); rwa [l8] at this)
  have HV2 := hid (show ∀ w', Adds w w' → (convert 91 9 (.slice (some ⟨bb, o + 248, none⟩) 8 (cap - 248))).run Tryd.prog w' = .ok (.string ⟨(bs.drop 248).toArray⟩) w' from fun w' hw => by have := conv_at w' _ _ (cap - 248) ((hA.suf 248).adds hw); rwa [l248] at this)
  rw [← heq] at HV2
  generalize (⟨(bs.take 8).toArray⟩ : ByteArray) = X1 at HV1 HV2
  have D1 := hid (show Adds w w.drew from (Touch.refl _ w).drew)
  have s3 : ∀ w, (Instr.sliceAt 91 (.slice (some ⟨bb, o, none⟩) 256 cap) none (some (.int .i64 248)) none).run Tryd.prog w = .ok (.slice (some ⟨bb, o, none⟩) 248 cap) w := fun w => run_pre (some ⟨bb, o, none⟩) 256 cap 248 (by omega) w
  have HO := hid (ropen_good bb o cap (bs.take 248) w.drew (by rw [List.length_take]; omega) (by omega) ((hA.pre 248).adds D1.out) ho)
  have H8 := hid (show ∀ w', Adds w w' → w'.cell? ⟨bb, o + 8, none⟩ = some (.int .u8 ((M.kindOf bs).toNat : Int)) from fun w' hw => by
    obtain ⟨b', o', e, hc⟩ := (hA.adds hw) 8 _ (get_of (by omega))
    obtain ⟨rfl, rfl⟩ : bb = b' ∧ o = o' := by simpa using e
    exact hc)
  have H9 := hid (show ∀ w', Adds w w' → w'.cell? ⟨bb, o + 9, none⟩ = some (.int .u8 (M.lenOf bs : Int)) from fun w' hw => by
    obtain ⟨b', o', e, hc⟩ := (hA.adds hw) 9 _ (get_of (by omega))
    obtain ⟨rfl, rfl⟩ : bb = b' ∧ o = o' := by simpa using e
    exact hc)
  have hln : M.lenOf bs < 256 := (bs.getD 9 0).toNat_lt
  have hkb : (((M.kindOf bs).toNat : Int) == 0) = false := beq_eq_false_iff_ne.2 (fun e => hk (UInt8.toNat_inj.1 (by simpa using (show (M.kindOf bs).toNat = 0 by omega))))
  have hgb : decide ((233 : Int) < (M.lenOf bs : Int)) = true := decide_eq_true (by omega)
  clear hZ0 hA h l8 l248 heq ho hl hcap hk hg
  generalize M.lenOf bs = ln at *
  generalize M.kindOf bs = kd at *
  go_enter Tryd.func68, Tryd.ntmps68
  go_upto_region 5 with (first | (go_at_call 85; refine HZ0.out.mono ?_; rintro e _ ⟨rfl, hw⟩; rw [hw]; clear hw))
  refine H_begin (S := fun w' => Adds w w') (by kernel_rfl) ?_
  have hS : Adds w w.drew := (Touch.refl _ w).drew
  refine H_put (i := 0) 16 (v := .slice (some ⟨bb, o, none⟩) 256 cap) rfl rfl (by kernel_rfl) (by kernel_rfl) (by kernel_rfl) (fun _ _ _ h => h) (Or.inl ⟨by rfl, fun w' hw' => ?_⟩) hS ?_
  · go_simp
  simp only [Act.put, List.setIfInBounds_toArray, List.set_cons_zero, List.set_cons_succ]
  refine H_put (i := 1) 17 (v := .slice (some ⟨bb, o, none⟩) 8 cap) rfl rfl (by kernel_rfl) (by kernel_rfl) (by kernel_rfl) (fun _ _ _ h => h) (Or.inl ⟨by rfl, fun w' hw' => ?_⟩) hS ?_
  · go_simp
  simp only [Act.put, List.setIfInBounds_toArray, List.set_cons_zero, List.set_cons_succ]
  refine H_put (i := 3) 19 (v := .slice (some ⟨bb, o, none⟩) 256 cap) rfl rfl (by kernel_rfl) (by kernel_rfl) (by kernel_rfl) (fun _ _ _ h => h) (Or.inl ⟨by rfl, fun w' hw' => ?_⟩) hS ?_
  · go_simp
  simp only [Act.put, List.setIfInBounds_toArray, List.set_cons_zero, List.set_cons_succ]
  refine H_put (i := 4) 20 (v := .slice (some ⟨bb, o + 248, none⟩) 8 (cap - 248)) rfl rfl (by kernel_rfl) (by kernel_rfl) (by kernel_rfl) (fun _ _ _ h => h) (Or.inl ⟨by rfl, fun w' hw' => ?_⟩) hS ?_
  · go_simp
  simp only [Act.put, List.setIfInBounds_toArray, List.set_cons_zero, List.set_cons_succ]
  refine H_put (i := 2) 18 (v := .string X1) rfl rfl (by kernel_rfl) (by kernel_rfl) (by kernel_rfl) (fun _ _ _ h => h) (Or.inl ⟨by rfl, fun w' hw' => ?_⟩) hS ?_
  · have hcv := HV1.out w' hw'; go_simp
  simp only [Act.put, List.setIfInBounds_toArray, List.set_cons_zero, List.set_cons_succ]
  refine H_put (i := 5) 21 (v := .string X1) rfl rfl (by kernel_rfl) (by kernel_rfl) (by kernel_rfl) (fun _ _ _ h => h) (Or.inl ⟨by rfl, fun w' hw' => ?_⟩) hS ?_
  · have hcv := HV2.out w' hw'; go_simp
  simp only [Act.put, List.setIfInBounds_toArray, List.set_cons_zero, List.set_cons_succ]
  refine H_put (i := 6) 22 (v := .bool false) rfl rfl (by kernel_rfl) (by kernel_rfl) (by kernel_rfl) (fun _ _ _ h => h) (Or.inl ⟨by rfl, fun w' hw' => ?_⟩) hS ?_
  · go_simp
  simp only [Act.put, List.setIfInBounds_toArray, List.set_cons_zero, List.set_cons_succ]
  refine wpAnyH_done (by kernel_rfl) ?_ _
  clear HV1 HV2
  go_wp2_with (first | (go_at_call 86; refine HO.out.mono ?_; rintro e w2 ⟨rfl, hA⟩; have A2 := hid (D1.out.trans hA); have c8 := H8.out w2 A2.out; have c9 := H9.out w2 A2.out; clear hA))
  (try simp only [Exit.inBlock, Exit.then]); refine bodyPost_ret (res4 rfl _ _ _) rfl ?_
  exact ⟨rfl, A2.out⟩
set_option maxRecDepth 100000 in
set_option maxHeartbeats 2000000 in
theorem rsopen22b (bb o cap : Nat) (bs : List UInt8) (w : World) (hl : bs.length = 256) (hcap : 256 ≤ cap) (hA : At w (some ⟨bb, o, none⟩) bs) (h : M.some0 (bs.take 8) = true) (heq : bs.take 8 = bs.drop 248) (ho : openErr (bs.take 248) = 0) (hk : M.kindOf bs ≠ 0) (hg : M.lenOf bs ≤ 233) (hb : M.some0 (M.behindOf bs) = true) : Calls Tryd.prog 68 #[.slice (some ⟨bb, o, none⟩) 256 cap] w (PBad w 22) := by
  have s1 : ∀ w, (Instr.sliceAt 91 (.slice (some ⟨bb, o, none⟩) 256 cap) none (some (.int .i64 8)) none).run Tryd.prog w = .ok (.slice (some ⟨bb, o, none⟩) 8 cap) w := fun w => run_pre (some ⟨bb, o, none⟩) 256 cap 8 (by omega) w
  have l8 : (bs.take 8).length = 8 := by rw [List.length_take]; omega
  have hZ0 := rzero_any (some ⟨bb, o, none⟩) (bs.take 8) cap w (hA.pre 8) (by omega) _ rfl
  rw [l8] at hZ0
  rw [h] at hZ0
  have HZ0 := hid hZ0
  have HA := hid (And.intro hl (And.intro hcap hA))
  have s2 : ∀ w, (Instr.sliceAt 91 (.slice (some ⟨bb, o, none⟩) 256 cap) (some (.int .i64 248)) none none).run Tryd.prog w = .ok (.slice (some ⟨bb, o + 248, none⟩) 8 (cap - 248)) w := fun w => suf_run bb o 256 cap 248 (by omega) (by omega) w
  have l248 : (bs.drop 248).length = 8 := by rw [List.length_drop]; omega
  have HV1 := hid (show ∀ w', Adds w w' → (convert 91 9 (.slice (some ⟨bb, o, none⟩) 8 cap)).run Tryd.prog w' = .ok (.string ⟨(bs.take 8).toArray⟩) w' from fun w' hw => by have := conv_at w' _ _ cap ((hA.pre 8).adds hw); rwa [l8] at this)
  have HV2 := hid (show ∀ w', Adds w w' → (convert 91 9 (.slice (some ⟨bb, o + 248, none⟩) 8 (cap - 248))).run Tryd.prog w' = .ok (.string ⟨(bs.drop 248).toArray⟩) w' from fun w' hw => by have := conv_at w' _ _ (cap - 248) ((hA.suf 248).adds hw); rwa [l248] at this)
  rw [← heq] at HV2
  generalize (⟨(bs.take 8).toArray⟩ : ByteArray) = X1 at HV1 HV2
  have D1 := hid (show Adds w w.drew from (Touch.refl _ w).drew)
  have s3 : ∀ w, (Instr.sliceAt 91 (.slice (some ⟨bb, o, none⟩) 256 cap) none (some (.int .i64 248)) none).run Tryd.prog w = .ok (.slice (some ⟨bb, o, none⟩) 248 cap) w := fun w => run_pre (some ⟨bb, o, none⟩) 256 cap 248 (by omega) w
  have HO := hid (ropen_good bb o cap (bs.take 248) w.drew (by rw [List.length_take]; omega) (by omega) ((hA.pre 248).adds D1.out) ho)
  have H8 := hid (show ∀ w', Adds w w' → w'.cell? ⟨bb, o + 8, none⟩ = some (.int .u8 ((M.kindOf bs).toNat : Int)) from fun w' hw => by
    obtain ⟨b', o', e, hc⟩ := (hA.adds hw) 8 _ (get_of (by omega))
    obtain ⟨rfl, rfl⟩ : bb = b' ∧ o = o' := by simpa using e
    exact hc)
  have H9 := hid (show ∀ w', Adds w w' → w'.cell? ⟨bb, o + 9, none⟩ = some (.int .u8 (M.lenOf bs : Int)) from fun w' hw => by
    obtain ⟨b', o', e, hc⟩ := (hA.adds hw) 9 _ (get_of (by omega))
    obtain ⟨rfl, rfl⟩ : bb = b' ∧ o = o' := by simpa using e
    exact hc)
  have hln : M.lenOf bs < 256 := (bs.getD 9 0).toNat_lt
  have hkb : (((M.kindOf bs).toNat : Int) == 0) = false := beq_eq_false_iff_ne.2 (fun e => hk (UInt8.toNat_inj.1 (by simpa using (show (M.kindOf bs).toNat = 0 by omega))))
  have hgb : decide ((233 : Int) < (M.lenOf bs : Int)) = false := decide_eq_false (by omega)
  have s4 : ∀ w, (Instr.sliceAt 91 (.slice (some ⟨bb, o, none⟩) 244 cap) (some (.int .i64 (10 + (M.lenOf bs : Int)))) none none).run Tryd.prog w = .ok (.slice (some ⟨bb, o + (10 + M.lenOf bs), none⟩) (234 - M.lenOf bs) (cap - (10 + M.lenOf bs))) w := fun w => by
    have := suf_run bb o 244 cap (10 + M.lenOf bs) (by omega) (by omega) w
    rw [show ((10 + M.lenOf bs : Nat) : Int) = 10 + (M.lenOf bs : Int) by omega, show 244 - (10 + M.lenOf bs) = 234 - M.lenOf bs by omega] at this
    exact this
  have HZ1 := hid (show ∀ w', Adds w w' → Calls Tryd.prog 85 #[.slice (some ⟨bb, o + (10 + M.lenOf bs), none⟩) (234 - M.lenOf bs) (cap - (10 + M.lenOf bs))] w' (Tells (.bool (!M.some0 (M.behindOf bs))) w') from fun w' hw => by
    have := rzero_any (some ⟨bb, o + (10 + M.lenOf bs), none⟩) (M.behindOf bs) (cap - (10 + M.lenOf bs)) w' (((hA.pre 244).suf (10 + M.lenOf bs)).adds hw) (by rw [M.len_behind hl]; omega) _ rfl
    rwa [M.len_behind hl] at this)
  rw [hb] at HZ1
  have hg' : (M.lenOf bs : Int) ≤ 233 := by omega
  clear hZ0 hA h l8 l248 heq ho hl hcap hk hg hb
  generalize M.lenOf bs = ln at *
  generalize M.kindOf bs = kd at *
  go_enter Tryd.func68, Tryd.ntmps68
  go_upto_region 5 with (first | (go_at_call 85; refine HZ0.out.mono ?_; rintro e _ ⟨rfl, hw⟩; rw [hw]; clear hw))
  refine H_begin (S := fun w' => Adds w w') (by kernel_rfl) ?_
  have hS : Adds w w.drew := (Touch.refl _ w).drew
  refine H_put (i := 0) 16 (v := .slice (some ⟨bb, o, none⟩) 256 cap) rfl rfl (by kernel_rfl) (by kernel_rfl) (by kernel_rfl) (fun _ _ _ h => h) (Or.inl ⟨by rfl, fun w' hw' => ?_⟩) hS ?_
  · go_simp
  simp only [Act.put, List.setIfInBounds_toArray, List.set_cons_zero, List.set_cons_succ]
  refine H_put (i := 1) 17 (v := .slice (some ⟨bb, o, none⟩) 8 cap) rfl rfl (by kernel_rfl) (by kernel_rfl) (by kernel_rfl) (fun _ _ _ h => h) (Or.inl ⟨by rfl, fun w' hw' => ?_⟩) hS ?_
  · go_simp
  simp only [Act.put, List.setIfInBounds_toArray, List.set_cons_zero, List.set_cons_succ]
  refine H_put (i := 3) 19 (v := .slice (some ⟨bb, o, none⟩) 256 cap) rfl rfl (by kernel_rfl) (by kernel_rfl) (by kernel_rfl) (fun _ _ _ h => h) (Or.inl ⟨by rfl, fun w' hw' => ?_⟩) hS ?_
  · go_simp
  simp only [Act.put, List.setIfInBounds_toArray, List.set_cons_zero, List.set_cons_succ]
  refine H_put (i := 4) 20 (v := .slice (some ⟨bb, o + 248, none⟩) 8 (cap - 248)) rfl rfl (by kernel_rfl) (by kernel_rfl) (by kernel_rfl) (fun _ _ _ h => h) (Or.inl ⟨by rfl, fun w' hw' => ?_⟩) hS ?_
  · go_simp
  simp only [Act.put, List.setIfInBounds_toArray, List.set_cons_zero, List.set_cons_succ]
  refine H_put (i := 2) 18 (v := .string X1) rfl rfl (by kernel_rfl) (by kernel_rfl) (by kernel_rfl) (fun _ _ _ h => h) (Or.inl ⟨by rfl, fun w' hw' => ?_⟩) hS ?_
  · have hcv := HV1.out w' hw'; go_simp
  simp only [Act.put, List.setIfInBounds_toArray, List.set_cons_zero, List.set_cons_succ]
  refine H_put (i := 5) 21 (v := .string X1) rfl rfl (by kernel_rfl) (by kernel_rfl) (by kernel_rfl) (fun _ _ _ h => h) (Or.inl ⟨by rfl, fun w' hw' => ?_⟩) hS ?_
  · have hcv := HV2.out w' hw'; go_simp
  simp only [Act.put, List.setIfInBounds_toArray, List.set_cons_zero, List.set_cons_succ]
  refine H_put (i := 6) 22 (v := .bool false) rfl rfl (by kernel_rfl) (by kernel_rfl) (by kernel_rfl) (fun _ _ _ h => h) (Or.inl ⟨by rfl, fun w' hw' => ?_⟩) hS ?_
  · go_simp
  simp only [Act.put, List.setIfInBounds_toArray, List.set_cons_zero, List.set_cons_succ]
  refine wpAnyH_done (by kernel_rfl) ?_ _
  clear HV1 HV2
  go_wp2_with (first | (have A2 := A2; go_at_call 85; refine (HZ1.out w2 A2.out).mono ?_; rintro e _ ⟨rfl, hw⟩; rw [hw]; clear hw) | (go_at_call 86; refine HO.out.mono ?_; rintro e w2 ⟨rfl, hA⟩; have A2 := hid (D1.out.trans hA); have c8 := H8.out w2 A2.out; have c9 := H9.out w2 A2.out; clear hA))
  (try simp only [Exit.inBlock, Exit.then]); refine bodyPost_ret (res4 rfl _ _ _) rfl ?_
  exact ⟨rfl, A2.out⟩
set_option maxRecDepth 100000 in
set_option maxHeartbeats 2000000 in
theorem rsopen0 (bb o cap : Nat) (bs : List UInt8) (w : World) (hl : bs.length = 256) (hcap : 256 ≤ cap) (hA : At w (some ⟨bb, o, none⟩) bs) (h : M.some0 (bs.take 8) = true) (heq : bs.take 8 = bs.drop 248) (ho : openErr (bs.take 248) = 0) (hk : M.kindOf bs ≠ 0) (hg : M.lenOf bs ≤ 233) (hb : M.some0 (M.behindOf bs) = false) : Calls Tryd.prog 68 #[.slice (some ⟨bb, o, none⟩) 256 cap] w fun e w' => e = .returned (.tuple #[.int .u64 (M.unfix (bs.take 8) : Int), .int .u8 ((M.kindOf bs).toNat : Int), .slice (some ⟨bb, o + 10, none⟩) (M.lenOf bs) (cap - 10), .int .i64 0]) ∧ Adds w w' := by
  have s1 : ∀ w, (Instr.sliceAt 91 (.slice (some ⟨bb, o, none⟩) 256 cap) none (some (.int .i64 8)) none).run Tryd.prog w = .ok (.slice (some ⟨bb, o, none⟩) 8 cap) w := fun w => run_pre (some ⟨bb, o, none⟩) 256 cap 8 (by omega) w
  have l8 : (bs.take 8).length = 8 := by rw [List.length_take]; omega
  have hZ0 := rzero_any (some ⟨bb, o, none⟩) (bs.take 8) cap w (hA.pre 8) (by omega) _ rfl
  rw [l8] at hZ0
  rw [h] at hZ0
  have HZ0 := hid hZ0
  have HA := hid (And.intro hl (And.intro hcap hA))
  have s2 : ∀ w, (Instr.sliceAt 91 (.slice (some ⟨bb, o, none⟩) 256 cap) (some (.int .i64 248)) none none).run Tryd.prog w = .ok (.slice (some ⟨bb, o + 248, none⟩) 8 (cap - 248)) w := fun w => suf_run bb o 256 cap 248 (by omega) (by omega) w
  have l248 : (bs.drop 248).length = 8 := by rw [List.length_drop]; omega
  have HV1 := hid (show ∀ w', Adds w w' → (convert 91 9 (.slice (some ⟨bb, o, none⟩) 8 cap)).run Tryd.prog w' = .ok (.string ⟨(bs.take 8).toArray⟩) w' from fun w' hw => by have := conv_at w' _ _ cap ((hA.pre 8).adds hw); rwa [l8] at this)
  have HV2 := hid (show ∀ w', Adds w w' → (convert 91 9 (.slice (some ⟨bb, o + 248, none⟩) 8 (cap - 248))).run Tryd.prog w' = .ok (.string ⟨(bs.drop 248).toArray⟩) w' from fun w' hw => by have := conv_at w' _ _ (cap - 248) ((hA.suf 248).adds hw); rwa [l248] at this)
  rw [← heq] at HV2
  generalize (⟨(bs.take 8).toArray⟩ : ByteArray) = X1 at HV1 HV2
  have D1 := hid (show Adds w w.drew from (Touch.refl _ w).drew)
  have s3 : ∀ w, (Instr.sliceAt 91 (.slice (some ⟨bb, o, none⟩) 256 cap) none (some (.int .i64 248)) none).run Tryd.prog w = .ok (.slice (some ⟨bb, o, none⟩) 248 cap) w := fun w => run_pre (some ⟨bb, o, none⟩) 256 cap 248 (by omega) w
  have HO := hid (ropen_good bb o cap (bs.take 248) w.drew (by rw [List.length_take]; omega) (by omega) ((hA.pre 248).adds D1.out) ho)
  have H8 := hid (show ∀ w', Adds w w' → w'.cell? ⟨bb, o + 8, none⟩ = some (.int .u8 ((M.kindOf bs).toNat : Int)) from fun w' hw => by
    obtain ⟨b', o', e, hc⟩ := (hA.adds hw) 8 _ (get_of (by omega))
    obtain ⟨rfl, rfl⟩ : bb = b' ∧ o = o' := by simpa using e
    exact hc)
  have H9 := hid (show ∀ w', Adds w w' → w'.cell? ⟨bb, o + 9, none⟩ = some (.int .u8 (M.lenOf bs : Int)) from fun w' hw => by
    obtain ⟨b', o', e, hc⟩ := (hA.adds hw) 9 _ (get_of (by omega))
    obtain ⟨rfl, rfl⟩ : bb = b' ∧ o = o' := by simpa using e
    exact hc)
  have hln : M.lenOf bs < 256 := (bs.getD 9 0).toNat_lt
  have hkb : (((M.kindOf bs).toNat : Int) == 0) = false := beq_eq_false_iff_ne.2 (fun e => hk (UInt8.toNat_inj.1 (by simpa using (show (M.kindOf bs).toNat = 0 by omega))))
  have hgb : decide ((233 : Int) < (M.lenOf bs : Int)) = false := decide_eq_false (by omega)
  have s4 : ∀ w, (Instr.sliceAt 91 (.slice (some ⟨bb, o, none⟩) 244 cap) (some (.int .i64 (10 + (M.lenOf bs : Int)))) none none).run Tryd.prog w = .ok (.slice (some ⟨bb, o + (10 + M.lenOf bs), none⟩) (234 - M.lenOf bs) (cap - (10 + M.lenOf bs))) w := fun w => by
    have := suf_run bb o 244 cap (10 + M.lenOf bs) (by omega) (by omega) w
    rw [show ((10 + M.lenOf bs : Nat) : Int) = 10 + (M.lenOf bs : Int) by omega, show 244 - (10 + M.lenOf bs) = 234 - M.lenOf bs by omega] at this
    exact this
  have HZ1 := hid (show ∀ w', Adds w w' → Calls Tryd.prog 85 #[.slice (some ⟨bb, o + (10 + M.lenOf bs), none⟩) (234 - M.lenOf bs) (cap - (10 + M.lenOf bs))] w' (Tells (.bool (!M.some0 (M.behindOf bs))) w') from fun w' hw => by
    have := rzero_any (some ⟨bb, o + (10 + M.lenOf bs), none⟩) (M.behindOf bs) (cap - (10 + M.lenOf bs)) w' (((hA.pre 244).suf (10 + M.lenOf bs)).adds hw) (by rw [M.len_behind hl]; omega) _ rfl
    rwa [M.len_behind hl] at this)
  rw [hb] at HZ1
  have hg' : (M.lenOf bs : Int) ≤ 233 := by omega
  have s5 : ∀ w, (Instr.sliceAt 91 (.slice (some ⟨bb, o, none⟩) 244 cap) (some (.int .i64 10)) (some (.int .i64 (10 + (M.lenOf bs : Int)))) none).run Tryd.prog w = .ok (.slice (some ⟨bb, o + 10, none⟩) (M.lenOf bs) (cap - 10)) w := fun w => by
    have := mid_run bb o 244 cap 10 (10 + M.lenOf bs) (by omega) (by omega) (by omega) w
    rw [show ((10 + M.lenOf bs : Nat) : Int) = 10 + (M.lenOf bs : Int) by omega, show 10 + M.lenOf bs - 10 = M.lenOf bs by omega] at this
    exact this
  have HR := hid (show ∀ w2, Adds w w2 → IsS (w2.alloc (.cells #[.slice (some ⟨bb, o, none⟩) 256 cap, .int .i64 0] 131)).drew w2.heap.size ⟨0, bs⟩ from fun w2 hw => by
    refine ⟨⟨some ⟨bb, o, none⟩, cap, ?_, ?_⟩, fun c => absurd rfl c, (by show bs.length ≤ 1000000; omega), (by show (0 : Nat) ≤ 100; decide)⟩
    · show (w2.alloc _).heap[w2.heap.size]? = _
      rw [heap_alloc_new w2 _]
      show _ = some (Obj.cells #[.slice (some ⟨bb, o, none⟩) bs.length cap, .int .i64 0] 131 (0, 0))
      rw [hl]
    · refine ⟨(hA.adds hw).adds (((Touch.refl _ w2).alloc _).drew), (by show bs.length ≤ cap; omega), (fun e => by cases e), fun ad e => ?_⟩
      obtain rfl : (⟨bb, o, none⟩ : Addr) = ad := by simpa using e
      refine ⟨rfl, ?_⟩
      obtain ⟨b', o', e', hc⟩ := (hA.adds hw) 0 _ (get_of (by omega))
      obtain ⟨rfl, rfl⟩ : bb = b' ∧ o = o' := by simpa using e'
      exact World.block_lt_of_cell? w2 _ hc)
  have HFX := hid (show (M.fixedR 8 ⟨0, bs⟩).1 = M.unfix (bs.take 8) by
    rw [M.fixedR, show M.clamp 8 = 8 from rfl, M.takeR_ok rfl (by show ¬ bs.length < 8; omega)])
  have HBL := hid (show ∀ w2, Adds w w2 → bb < w2.heap.size from fun w2 hw => by
    obtain ⟨b', o', e', hc⟩ := (hA.adds hw) 0 _ (get_of (by omega))
    obtain ⟨rfl, rfl⟩ : bb = b' ∧ o = o' := by simpa using e'
    exact World.block_lt_of_cell? w2 _ hc)
  clear hZ0 hA h l8 l248 heq ho hl hcap hk hg hb
  generalize M.lenOf bs = ln at *
  generalize M.kindOf bs = kd at *
  go_enter Tryd.func68, Tryd.ntmps68
  go_upto_region 5 with (first | (go_at_call 85; refine HZ0.out.mono ?_; rintro e _ ⟨rfl, hw⟩; rw [hw]; clear hw))
  refine H_begin (S := fun w' => Adds w w') (by kernel_rfl) ?_
  have hS : Adds w w.drew := (Touch.refl _ w).drew
  refine H_put (i := 0) 16 (v := .slice (some ⟨bb, o, none⟩) 256 cap) rfl rfl (by kernel_rfl) (by kernel_rfl) (by kernel_rfl) (fun _ _ _ h => h) (Or.inl ⟨by rfl, fun w' hw' => ?_⟩) hS ?_
  · go_simp
  simp only [Act.put, List.setIfInBounds_toArray, List.set_cons_zero, List.set_cons_succ]
  refine H_put (i := 1) 17 (v := .slice (some ⟨bb, o, none⟩) 8 cap) rfl rfl (by kernel_rfl) (by kernel_rfl) (by kernel_rfl) (fun _ _ _ h => h) (Or.inl ⟨by rfl, fun w' hw' => ?_⟩) hS ?_
  · go_simp
  simp only [Act.put, List.setIfInBounds_toArray, List.set_cons_zero, List.set_cons_succ]
  refine H_put (i := 3) 19 (v := .slice (some ⟨bb, o, none⟩) 256 cap) rfl rfl (by kernel_rfl) (by kernel_rfl) (by kernel_rfl) (fun _ _ _ h => h) (Or.inl ⟨by rfl, fun w' hw' => ?_⟩) hS ?_
  · go_simp
  simp only [Act.put, List.setIfInBounds_toArray, List.set_cons_zero, List.set_cons_succ]
  refine H_put (i := 4) 20 (v := .slice (some ⟨bb, o + 248, none⟩) 8 (cap - 248)) rfl rfl (by kernel_rfl) (by kernel_rfl) (by kernel_rfl) (fun _ _ _ h => h) (Or.inl ⟨by rfl, fun w' hw' => ?_⟩) hS ?_
  · go_simp
  simp only [Act.put, List.setIfInBounds_toArray, List.set_cons_zero, List.set_cons_succ]
  refine H_put (i := 2) 18 (v := .string X1) rfl rfl (by kernel_rfl) (by kernel_rfl) (by kernel_rfl) (fun _ _ _ h => h) (Or.inl ⟨by rfl, fun w' hw' => ?_⟩) hS ?_
  · have hcv := HV1.out w' hw'; go_simp
  simp only [Act.put, List.setIfInBounds_toArray, List.set_cons_zero, List.set_cons_succ]
  refine H_put (i := 5) 21 (v := .string X1) rfl rfl (by kernel_rfl) (by kernel_rfl) (by kernel_rfl) (fun _ _ _ h => h) (Or.inl ⟨by rfl, fun w' hw' => ?_⟩) hS ?_
  · have hcv := HV2.out w' hw'; go_simp
  simp only [Act.put, List.setIfInBounds_toArray, List.set_cons_zero, List.set_cons_succ]
  refine H_put (i := 6) 22 (v := .bool false) rfl rfl (by kernel_rfl) (by kernel_rfl) (by kernel_rfl) (fun _ _ _ h => h) (Or.inl ⟨by rfl, fun w' hw' => ?_⟩) hS ?_
  · go_simp
  simp only [Act.put, List.setIfInBounds_toArray, List.set_cons_zero, List.set_cons_succ]
  refine wpAnyH_done (by kernel_rfl) ?_ _
  clear HV1 HV2
  go_upto_region 16 with (first | (have A2 := A2; go_at_call 85; refine (HZ1.out w2 A2.out).mono ?_; rintro e _ ⟨rfl, hw⟩; rw [hw]; clear hw) | (go_at_call 86; refine HO.out.mono ?_; rintro e w2 ⟨rfl, hA⟩; have A2 := hid (D1.out.trans hA); have c8 := H8.out w2 A2.out; have c9 := H9.out w2 A2.out; clear hA))
  refine H_begin (S := fun w' => Touch (fun k => k = w2.heap.size) (w2.alloc (.cells #[.slice (some ⟨bb, o, none⟩) 256 cap, .int .i64 0] 131)) w') (by kernel_rfl) ?_
  have hS : Touch (fun k => k = w2.heap.size) (w2.alloc (.cells #[.slice (some ⟨bb, o, none⟩) 256 cap, .int .i64 0] 131)) (w2.alloc (.cells #[.slice (some ⟨bb, o, none⟩) 256 cap, .int .i64 0] 131)).drew := (Touch.refl _ _).drew
  have HC8 := hid (show ∀ w', Touch (fun k => k = w2.heap.size) (w2.alloc (.cells #[.slice (some ⟨bb, o, none⟩) 256 cap, .int .i64 0] 131)) w' → w'.cell? ⟨bb, o + 8, none⟩ = some (.int .u8 (kd.toNat : Int)) from fun w' hw => by
      have hlt := HBL.out w2 A2.out
      rw [World.cell?_of_block (w := w2) ((hw.block bb (by simp; omega) (fun c => absurd c (Nat.ne_of_lt hlt))).trans (Below.heap_alloc _ _ _ hlt))]
      exact H8.out w2 A2.out)
  refine H_put (i := 0) 53 (v := .pointer (some ⟨w2.heap.size, 0, none⟩)) rfl rfl (by kernel_rfl) (by kernel_rfl) (by kernel_rfl) (fun _ _ _ h => h) (Or.inl ⟨by rfl, fun w' hw' => ?_⟩) hS ?_
  · go_simp
  simp only [Act.put, List.setIfInBounds_toArray, List.set_cons_zero, List.set_cons_succ]
  refine H_put (i := 2) 55 (v := .slice (some ⟨bb, o, none⟩) 244 cap) rfl rfl (by kernel_rfl) (by kernel_rfl) (by kernel_rfl) (fun _ _ _ h => h) (Or.inl ⟨by rfl, fun w' hw' => ?_⟩) hS ?_
  · go_simp
  simp only [Act.put, List.setIfInBounds_toArray, List.set_cons_zero, List.set_cons_succ]
  refine H_put (i := 3) 56 (v := .pointer (some ⟨bb, o + 8, none⟩)) rfl rfl (by kernel_rfl) (by kernel_rfl) (by kernel_rfl) (fun _ _ _ h => h) (Or.inl ⟨by rfl, fun w' hw' => ?_⟩) hS ?_
  · go_simp
  simp only [Act.put, List.setIfInBounds_toArray, List.set_cons_zero, List.set_cons_succ]
  refine H_put (i := 4) 57 (v := .int .u8 (kd.toNat : Int)) rfl rfl (by kernel_rfl) (by kernel_rfl) (by kernel_rfl) (fun _ _ _ h => h) (Or.inl ⟨by rfl, fun w' hw' => ?_⟩) hS ?_
  · have c8' := HC8.out w' hw'; go_simp
  simp only [Act.put, List.setIfInBounds_toArray, List.set_cons_zero, List.set_cons_succ]
  refine H_put (i := 5) 58 (v := .slice (some ⟨bb, o, none⟩) 244 cap) rfl rfl (by kernel_rfl) (by kernel_rfl) (by kernel_rfl) (fun _ _ _ h => h) (Or.inl ⟨by rfl, fun w' hw' => ?_⟩) hS ?_
  · go_simp
  simp only [Act.put, List.setIfInBounds_toArray, List.set_cons_zero, List.set_cons_succ]
  refine H_put (i := 6) 59 (v := .int .i64 (ln : Int)) rfl rfl (by kernel_rfl) (by kernel_rfl) (by kernel_rfl) (fun _ _ _ h => h) (Or.inl ⟨by rfl, fun w' hw' => ?_⟩) hS ?_
  · go_simp
  simp only [Act.put, List.setIfInBounds_toArray, List.set_cons_zero, List.set_cons_succ]
  refine H_put (i := 7) 60 (v := .int .i64 (10 + (ln : Int))) rfl rfl (by kernel_rfl) (by kernel_rfl) (by kernel_rfl) (fun _ _ _ h => h) (Or.inl ⟨by rfl, fun w' hw' => ?_⟩) hS ?_
  · go_simp; rw [IntKind.wrap_i64]; omega
  simp only [Act.put, List.setIfInBounds_toArray, List.set_cons_zero, List.set_cons_succ]
  refine H_put (i := 8) 61 (v := .slice (some ⟨bb, o + 10, none⟩) ln (cap - 10)) rfl rfl (by kernel_rfl) (by kernel_rfl) (by kernel_rfl) (fun _ _ _ h => h) (Or.inl ⟨by rfl, fun w' hw' => ?_⟩) hS ?_
  · go_simp
  simp only [Act.put, List.setIfInBounds_toArray, List.set_cons_zero, List.set_cons_succ]
  refine H_call (i := 1) 54 87 #[.pointer (some ⟨w2.heap.size, 0, none⟩), .int .i64 8] (R := PS (w2.alloc (.cells #[.slice (some ⟨bb, o, none⟩) 256 cap, .int .i64 0] 131)).drew w2.heap.size (.int .u64 ((M.fixedR 8 ⟨0, bs⟩).1 : Int)) (M.fixedR 8 ⟨0, bs⟩).2) (by kernel_rfl) rfl rfl (by rfl) (by go_simp) ?_ ?_
  · exact rfixed_any 8 (HR.out w2 A2.out)
  rintro e w6 ⟨rfl, _, hT6⟩
  rw [HFX.out]
  have A6 := hid (show Adds w w6 from Adds.own (A2.out.trans (((Touch.refl _ w2).alloc (.cells #[.slice (some ⟨bb, o, none⟩) 256 cap, .int .i64 0] 131)).drew)) hT6 A2.out.size)
  have T6 := hid (show Touch (fun k => k = w2.heap.size) (w2.alloc (.cells #[.slice (some ⟨bb, o, none⟩) 256 cap, .int .i64 0] 131)) w6 from ((Touch.refl _ _).drew).trans (hT6.mono (fun i _ e => by unfold Own1 at e; simpa using e.symm)))
  refine ⟨_, fun w' => Adds w6 w', rfl, Touch.refl _ _, fun w' h => T6.out.trans (h.mono (fun _ _ c => c.elim)), ?_⟩
  clear hS hT6
  have hS : Adds w6 w6 := Touch.refl _ _
  simp only [Act.put, List.setIfInBounds_toArray, List.set_cons_zero, List.set_cons_succ]
  refine H_put (i := 9) 2 (v := .int .u64 (M.unfix (bs.take 8) : Int)) rfl rfl (by kernel_rfl) (by kernel_rfl) (by kernel_rfl) (fun _ _ _ h => h) (Or.inl ⟨by rfl, fun w' hw' => ?_⟩) hS ?_
  · go_simp
  simp only [Act.put, List.setIfInBounds_toArray, List.set_cons_zero, List.set_cons_succ]
  refine H_put (i := 10) 3 (v := .int .u8 (kd.toNat : Int)) rfl rfl (by kernel_rfl) (by kernel_rfl) (by kernel_rfl) (fun _ _ _ h => h) (Or.inl ⟨by rfl, fun w' hw' => ?_⟩) hS ?_
  · go_simp
  simp only [Act.put, List.setIfInBounds_toArray, List.set_cons_zero, List.set_cons_succ]
  refine H_put (i := 11) 4 (v := .slice (some ⟨bb, o + 10, none⟩) ln (cap - 10)) rfl rfl (by kernel_rfl) (by kernel_rfl) (by kernel_rfl) (fun _ _ _ h => h) (Or.inl ⟨by rfl, fun w' hw' => ?_⟩) hS ?_
  · go_simp
  simp only [Act.put, List.setIfInBounds_toArray, List.set_cons_zero, List.set_cons_succ]
  refine H_put (i := 12) 5 (v := .int .i64 0) rfl rfl (by kernel_rfl) (by kernel_rfl) (by kernel_rfl) (fun _ _ _ h => h) (Or.inl ⟨by rfl, fun w' hw' => ?_⟩) hS ?_
  · go_simp
  simp only [Act.put, List.setIfInBounds_toArray, List.set_cons_zero, List.set_cons_succ]
  refine wpAnyH_done (by kernel_rfl) ?_ _
  go_wp2
  (try simp only [Exit.inBlock, Exit.then]); refine bodyPost_ret (res4 rfl _ _ _) rfl ?_
  exact ⟨rfl, A6.out⟩
set_option maxRecDepth 100000 in
theorem rsopen_any (a : Option Addr) (bs : List UInt8) (cap : Nat) (w : World) (hcap : bs.length ≤ cap) (hA : At w a bs) : Calls Tryd.prog 68 #[.slice a bs.length cap] w (PRSO w bs) := by
  by_cases hl : bs.length = 256
  · obtain ⟨bb, o, rfl⟩ := hA.ad (by omega)
    have hz : ∀ z : Nat, z ≠ 0 → M.oErr bs = z → Calls Tryd.prog 68 #[.slice (some ⟨bb, o, none⟩) 256 cap] w (PBad w (z : Int)) → Calls Tryd.prog 68 #[.slice (some ⟨bb, o, none⟩) 256 cap] w (PRSO w bs) := fun z h0 he hc =>
      hc.mono (fun e w' h => PRSO.bad (by rw [he]) (by omega) h)
    have h256 : ¬ bs.length ≠ 256 := fun c => c hl
    rw [hl]
    have hcap' : 256 ≤ cap := by omega
    by_cases h0 : M.some0 (bs.take 8) = false
    · exact hz 40 (by decide) (by rw [M.oErr, if_neg h256, if_pos ((unfix_zero _).2 h0)]) (rsopen40 bb o cap bs w hl hcap' hA h0)
    · have h0' : M.some0 (bs.take 8) = true := by simpa using h0
      have hu : ¬ M.unfix (bs.take 8) = 0 := fun c => h0 ((unfix_zero _).1 c)
      by_cases h1 : bs.take 8 = bs.drop 248
      · have h1' : ¬ bs.take 8 ≠ bs.drop 248 := fun c => c h1
        rcases openErr_is (bs := bs.take 248) (by rw [List.length_take]; omega) with h2 | h2
        · have h2' : ¬ openErr (bs.take 248) ≠ 0 := fun c => c h2
          by_cases h3 : M.kindOf bs = 0
          · exact hz 22 (by decide) (by rw [M.oErr, if_neg h256, if_neg hu, if_neg h1', if_neg h2', if_pos (.inl h3)]) (rsopen22k bb o cap bs w hl hcap' hA h0' h1 h2 h3)
          · by_cases h4 : 233 < M.lenOf bs
            · exact hz 22 (by decide) (by rw [M.oErr, if_neg h256, if_neg hu, if_neg h1', if_neg h2', if_pos (.inr (.inl h4))]) (rsopen22l bb o cap bs w hl hcap' hA h0' h1 h2 h3 h4)
            · by_cases h5 : M.some0 (M.behindOf bs) = true
              · exact hz 22 (by decide) (by rw [M.oErr, if_neg h256, if_neg hu, if_neg h1', if_neg h2', if_pos (.inr (.inr h5))]) (rsopen22b bb o cap bs w hl hcap' hA h0' h1 h2 h3 (by omega) h5)
              · have he : M.oErr bs = 0 := by
                  rw [M.oErr, if_neg h256, if_neg hu, if_neg h1', if_neg h2', if_neg]
                  rintro (c | c | c)
                  · exact h3 c
                  · exact h4 c
                  · exact h5 c
                refine (rsopen0 bb o cap bs w hl hcap' hA h0' h1 h2 h3 (by omega) (by simpa using h5)).mono ?_
                rintro e w' ⟨rfl, hA'⟩
                have hb : M.oBody bs = (bs.drop 10).take (M.lenOf bs) := by rw [M.oBody, if_pos he]
                have hlb : (M.oBody bs).length = M.lenOf bs := by rw [hb, List.length_take, List.length_drop]; omega
                refine ⟨some ⟨bb, o + 10, none⟩, cap - 10, by rw [M.oMark, if_pos he, M.oKind, if_pos he, he, hlb]; rfl, ?_, hA'⟩
                rw [hb]
                exact ((hA.suf 10).pre _).adds hA'
        · exact hz 20 (by decide) (by rw [M.oErr, if_neg h256, if_neg hu, if_neg h1', if_pos (by rw [h2]; decide)]) (rsopen20 bb o cap bs w hl hcap' hA h0' h1 h2)
      · exact hz 23 (by decide) (by rw [M.oErr, if_neg h256, if_neg hu, if_pos h1]) (rsopen23 bb o cap bs w hl hcap' hA h0' h1)
  · exact (rsopen_long a bs.length cap w hl).mono (fun e w' h => PRSO.bad (by rw [M.oErr, if_pos hl]; rfl) (by decide) h)
end Go.Proofs.YtmmgfankbabfbaaDoor
