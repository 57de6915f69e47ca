/- Whether two tables are the same; the law's own guard; the chapter's examples. -/
import Derived.Test.YtlgchdpajfmpdaaRight
import Derived.Test.YtlgchdpajfmpdaaOrder
import Derived.BigQuiet
import Derived.Laws.StructEq
import Derived.Deep.CutRange
import Derived.Deep.DeepCutAuto
namespace Go.Proofs.Ytlgchdpajfmpdaa
open Go.RowKit

theorem Touch.drewN {T : Nat → Prop} {a w : World} (h : Touch T a w) : ∀ n, Touch T a (w.drewN n)
  | 0 => h
  | _ + 1 => ⟨h.os, h.tape, h.output, h.size, h.block⟩
theorem take_eq {cs ds : List M.Col} {i : Nat} {c : M.Col} (hc : cs[i]? = some c) (hd : ds[i]? = some c) (h : cs.take i = ds.take i) : cs.take (i + 1) = ds.take (i + 1) := by
  rw [List.take_add_one, List.take_add_one, hc, hd, h]
theorem neq_col (s t : List UInt8) (k l : Int) (w : World) : (binOp .neq 51 (.agg #[.string ⟨s.toArray⟩, .int .i64 k]) (.agg #[.string ⟨t.toArray⟩, .int .i64 l])).run Try.prog w = .ok (.bool (!decide ((s, k) = (t, l)))) w := by
  have hu : Try.prog.underlying 51 = some (.struct (Try.prog.fieldsOf 51)) := by kernel_rfl
  rw [run_neq_struct, run_equalIn_struct w 9999 51 _ _ hu (by kernel_rfl)]
  have hf : ((Try.prog.fieldsOf 51).toList.map fun f => (f.name, f.type, f.offset)) = [("Name", 9, 0), ("Kind", 3, 1)] := by kernel_rfl
  obtain ⟨f, g, h⟩ : ∃ f g, (Try.prog.fieldsOf 51).toList = [f, g] := by
    have hl := congrArg List.length hf
    rw [List.length_map] at hl
    match (Try.prog.fieldsOf 51).toList, hl with
    | [f, g], _ => exact ⟨f, g, rfl⟩
  rw [h] at hf ⊢
  simp only [List.map_cons, List.map_nil, List.cons.injEq, Prod.mk.injEq, and_true] at hf
  obtain ⟨⟨f1, f2, f3⟩, g1, g2, g3⟩ := hf
  simp [Op.eqFields, f1, f2, f3, g1, g2, g3, go_sem]
  by_cases h1 : s = t <;> by_cases h2 : k = l <;> simp [h1, h2]
set_option maxRecDepth 100000 in
set_option maxHeartbeats 1000000 in
theorem equal_any (a b : Option Addr) (ca cb : Nat) (cs ds : List M.Col) (w : World) (hA : ColAt w a cs) (hB : ColAt w b ds) (hl : cs.length ≤ 1000) : Calls Try.prog 37 #[.slice a cs.length ca, .slice b ds.length cb] w (Tells w (.bool (decide (cs = ds)))) := by
  have HA := hid (And.intro hA hB)
  clear hA hB
  by_cases hn : cs.length = ds.length
  · have zn : ((cs.length : Int) == (ds.length : Int)) = true := by rw [beq_iff_eq]; omega
    have HNN := hid hn
    go_enter Try.func37, Try.ntmps37
    go_wp2_with fail
    go_loopw [13] (fun iv wr => ∃ i : Nat, iv = .int .i64 (i : Int) ∧ i ≤ cs.length ∧ Hid (cs.take i = ds.take i ∧ Adds w wr)) (fun iv _ => cs.length - (intOf iv).toNat)
    case atStart => exact ⟨0, rfl, Nat.zero_le _, by simp, Touch.refl _ _⟩
    case round =>
      obtain ⟨i, rfl, hi, HI⟩ := hrel
      by_cases hlt : i < cs.length
      · have hltz : (i : Int) < (cs.length : Int) := by omega
        obtain ⟨c, hc⟩ : ∃ c, cs[i]? = some c := ⟨cs[i], List.getElem?_eq_getElem hlt⟩
        obtain ⟨d, hd⟩ : ∃ d, ds[i]? = some d := ⟨ds[i]'(by omega), List.getElem?_eq_getElem _⟩
        obtain ⟨b1, o1, ea, c0, c1⟩ := (HA.out.1.adds HI.out.2) i c hc
        obtain ⟨b2, o2, eb, d0, d1⟩ := (HA.out.2.adds HI.out.2) i d hd
        subst ea eb
        obtain ⟨s, k⟩ := c
        obtain ⟨t, l⟩ := d
        have HC := hid (And.intro hc hd)
        clear hc hd
        simp only at c0 c1 d0 d1
        have hltd : (i : Int) < (ds.length : Int) := by omega
        have hq := neq_col s t k l
        have hg : Try.prog.eqGuardType Try.prog.depth 51 = false := by kernel_rfl
        by_cases he : (s, k) = (t, l)
        · rw [decide_eq_true he] at hq
          obtain ⟨rfl, rfl⟩ : s = t ∧ k = l := by simpa using he
          have HF := hid (take_eq HC.out.1 HC.out.2 HI.out.1)
          clear he
          go_upto_region 6 with fail
          go_quiet (fail)
          go_wp2_with fail
          go_roundw
          case rel => exact ⟨i + 1, by go_num, by omega, HF.out, HI.out.2.drewN _⟩
          case measure => simp [intOf]; omega
        · rw [decide_eq_false he] at hq
          have HF := hid (show ¬ cs = ds from fun e => he (by have h1 := HC.out.1; rw [e, HC.out.2] at h1; simpa using h1.symm))
          clear he
          go_upto_region 6 with fail
          go_quiet (fail)
          go_wp2_with fail
          go_ret
          exact ⟨by rw [decide_eq_false HF.out]; rfl, HI.out.2.drewN _⟩
      · have hltz : ¬ (i : Int) < (cs.length : Int) := by omega
        have HF := hid (show cs = ds by have := HI.out.1; rw [List.take_of_length_le (by omega), List.take_of_length_le (by have := HNN.out; omega)] at this; exact this)
        go_wp2_with fail
        go_ret
        exact ⟨by rw [decide_eq_true HF.out]; rfl, HI.out.2⟩
  · have zn : ((cs.length : Int) == (ds.length : Int)) = false := by rw [beq_eq_false_iff_ne]; omega
    have HF := hid (show ¬ cs = ds from fun e => hn (by rw [e]))
    clear hn
    go_enter Try.func37, Try.ntmps37
    go_wp2_with fail
    go_ret
    exact ⟨by rw [decide_eq_false HF.out]; rfl, Touch.refl _ _⟩
set_option maxHeartbeats 1000000 in
theorem same_any (n m : List UInt8) (a b : Option Addr) (ca cb : Nat) (cs ds : List M.Col) (w : World) (hA : ColAt w a cs) (hB : ColAt w b ds) (hl : cs.length ≤ 1000) : Calls Try.prog 19 #[.agg #[.string ⟨n.toArray⟩, .slice a cs.length ca], .agg #[.string ⟨m.toArray⟩, .slice b ds.length cb]] w (Tells w (.bool (decide (n = m ∧ cs = ds)))) := by
  have hA1 : Adds w ((w.alloc (.cells #[.string ⟨n.toArray⟩, .slice a cs.length ca] 24)).alloc (.cells #[.string ⟨m.toArray⟩, .slice b ds.length cb] 24)) := ((Touch.refl _ w).alloc _).alloc _
  have H := hid (equal_any a b ca cb cs ds _ (hA.adds hA1) (hB.adds hA1) hl)
  have HA := hid hA1
  clear hA hB hA1
  by_cases h : n = m
  · subst h
    have HF := hid (show decide (n = n ∧ cs = ds) = decide (cs = ds) by rw [decide_eq_decide]; simp)
    go_enter Try.func19, Try.ntmps19
    go_wp2_with (first | (go_at_call 37; refine H.out.mono ?_; rintro e w' ⟨rfl, hA⟩; have A1 := hid hA; clear hA))
    go_ret
    exact ⟨by rw [HF.out]; rfl, HA.out.trans A1.out⟩
  · have HF := hid (show decide (n = m ∧ cs = ds) = false from decide_eq_false (fun e => h e.1))
    have hb : (n == m) = false := by rw [beq_eq_false_iff_ne]; exact h
    clear h
    go_enter Try.func19, Try.ntmps19
    go_wp2_with fail
    go_ret
    exact ⟨by rw [HF.out]; rfl, HA.out⟩
/-- Is a table too great to be asked of? -/
def great (n : List UInt8) (cs : List M.Col) : Bool := decide (100 < cs.length) || decide (500 < n.length) || cs.any (fun c => decide (500 < c.1.length))
theorem great_not {n : List UInt8} {cs : List M.Col} (h : great n cs = false) : cs.length ≤ 100 ∧ n.length ≤ 500 ∧ ∀ c ∈ cs, c.1.length ≤ 500 := by
  unfold great at h
  simp only [Bool.or_eq_false_iff, decide_eq_false_iff_not, List.any_eq_false, decide_eq_true_eq] at h
  exact ⟨by omega, by omega, fun c hc => by have := h.2 c hc; omega⟩
set_option maxRecDepth 100000 in
set_option maxHeartbeats 1000000 in
theorem great_any (n : List UInt8) (a : Option Addr) (cap : Nat) (cs : List M.Col) (w : World) (hA : ColAt w a cs) : Calls Try.prog 7 #[.agg #[.string ⟨n.toArray⟩, .slice a cs.length cap]] w (Tells w (.bool (great n cs))) := by
  have HA := hid hA
  have A0 := hid (show Adds w (w.alloc (.cells #[.string ⟨n.toArray⟩, .slice a cs.length cap] 24)) from (Touch.refl _ w).alloc _)
  clear hA
  by_cases h1 : 100 < cs.length
  · have z1 : (100 : Int) < (cs.length : Int) := by omega
    have HF := hid (show great n cs = true by simp [great, h1])
    clear h1
    go_enter Try.func7, Try.ntmps7
    go_wp2_with fail
    go_ret
    exact ⟨by rw [HF.out]; rfl, A0.out⟩
  have z1 : ¬ (100 : Int) < (cs.length : Int) := by omega
  by_cases h2 : 500 < n.length
  · have z2 : (500 : Int) < (n.length : Int) := by omega
    have HF := hid (show great n cs = true by simp [great, h2])
    clear h1 h2
    go_enter Try.func7, Try.ntmps7
    go_wp2_with fail
    go_ret
    exact ⟨by rw [HF.out]; rfl, A0.out⟩
  have z2 : ¬ (500 : Int) < (n.length : Int) := by omega
  have HF := hid (show great n cs = cs.any (fun c => decide (500 < c.1.length)) by simp [great, h1, h2])
  have hl : cs.length ≤ 100 := by omega
  clear h1 h2
  go_enter Try.func7, Try.ntmps7
  go_wp2_with fail
  go_loopw [18] (fun iv wr => ∃ i : Nat, iv = .int .i64 (i : Int) ∧ i ≤ cs.length ∧ Hid ((∀ d ∈ cs.take i, (fun c : M.Col => decide (500 < c.1.length)) d = false) ∧ Adds w wr)) (fun iv _ => cs.length - (intOf iv).toNat)
  case atStart => exact ⟨0, rfl, Nat.zero_le _, fun d hd => (by simp at hd), A0.out⟩
  case round =>
    obtain ⟨i, rfl, hi, HI⟩ := hrel
    by_cases hlt : i < cs.length
    · have hltz : (i : Int) < (cs.length : Int) := by omega
      obtain ⟨c, hc⟩ : ∃ c, cs[i]? = some c := ⟨cs[i], List.getElem?_eq_getElem hlt⟩
      obtain ⟨b, o, ea, c0, c1⟩ := (HA.out.adds HI.out.2) i c hc
      subst ea
      have HC := hid hc
      clear hc
      by_cases h5 : 500 < c.1.length
      · have z5 : (500 : Int) < (c.1.length : Int) := by omega
        have HG := hid (show cs.any (fun c => decide (500 < c.1.length)) = true from List.any_eq_true.2 ⟨c, List.mem_of_getElem? HC.out, decide_eq_true h5⟩)
        clear h5
        go_wp2_with fail
        go_ret
        exact ⟨by rw [HF.out, HG.out]; rfl, HI.out.2.alloc _⟩
      · have z5 : ¬ (500 : Int) < (c.1.length : Int) := by omega
        have HG := hid (M.take_false (p := fun c => decide (500 < c.1.length)) HC.out HI.out.1 (decide_eq_false h5))
        clear h5
        go_wp2_with fail
        go_roundw
        case rel => exact ⟨i + 1, by go_num, by omega, HG.out, HI.out.2.alloc _⟩
        case measure => simp [intOf]; omega
    · have hltz : ¬ (i : Int) < (cs.length : Int) := by omega
      have HG := hid (show cs.any (fun c => decide (500 < c.1.length)) = false by
        rw [List.any_eq_false]
        have h := HI.out.1
        rw [List.take_of_length_le (by omega)] at h
        intro c hc
        rw [Bool.not_eq_true]
        exact h c hc)
      go_wp2_with fail
      go_ret
      exact ⟨by rw [HF.out, HG.out]; rfl, HI.out.2⟩
end Go.Proofs.Ytlgchdpajfmpdaa
