/- Texts put together: PCut, PRd, PLeft, PPMath, PReg, PPage, PConcat. -/
import Derived.Test.YtplppnngmlljnaaQ06
import Derived.Deep.RegionHeld3
import Derived.Test.YtplppnngmlljnaaQ01
import Derived.Test.YtplppnngmlljnaaQ05
/- The cells that stand in a page's room: page.cut. -/
namespace Go.Proofs.Ytplppnngmlljnaa
open Go.RowKit

set_option maxRecDepth 100000 in
theorem fixedR_ok {z : Int} {k : Nat} {l : List UInt8} (hz : M.clamp z = k) (hl : k ≤ l.length) : M.fixedR z ⟨0, l⟩ = (M.unfix (l.take k), ⟨0, l.drop k⟩) := by
  rw [M.fixedR, hz, M.takeR_ok rfl (by show ¬ l.length < k; omega)]
set_option maxRecDepth 100000 in
theorem run_suf_at (b o len cap n : Nat) (hn : n ≤ len) (hc : n < cap) (w : World) : (Instr.sliceAt 30 (.slice (some ⟨b, o, none⟩) len cap) (some (.int .i64 (n : Int))) none none).run Try.prog w = .ok (.slice (some ⟨b, o + n, none⟩) (len - n) (cap - n)) w := by
  rw [run_suf _ _ _ _ hn, sufAt, if_neg (by omega)]
  simp [Addr.add_mid]
set_option maxRecDepth 100000 in
theorem run_mid_at (b o len cap l h : Nat) (h1 : l ≤ h) (h2 : h ≤ cap) (h3 : l < cap) (w : World) : (Instr.sliceAt 30 (.slice (some ⟨b, o, none⟩) len cap) (some (.int .i64 (l : Int))) (some (.int .i64 (h : Int))) none).run Try.prog w = .ok (.slice (some ⟨b, o + l, none⟩) (h - l) (cap - l)) w := by
  have hsz : (sizeOf 5).run Try.prog w = .ok 1 w := by kernel_rfl
  rw [run_sliceAt_slice w 30 _ _ _ _ Try.underlying30, run_slice_lh w 30 _ len cap Try.underlying30 .i64 .i64 l h (by omega) (by omega) (by omega)]
  have he : Try.prog.elem 30 = 5 := by kernel_rfl
  rw [he, hsz]
  simp only [Result.andThen, sliced, Int.toNat_natCast, Nat.mul_one]
  rw [if_neg (by omega)]
  simp [Addr.add_mid]
set_option maxRecDepth 100000 in
theorem make_cells (n : Nat) (hn : n ≤ 1000000) (w : World) : (Instr.makeSlice 23 (.int .i64 0) (.int .i64 (n : Int))).run Try.prog w = .ok (.slice (some ⟨w.heap.size, 0, none⟩) 0 n) (w.alloc (.cells (madeCells #[.slice none 0 0] n) 30)) := by
  obtain ⟨i0, hi, hz0, hz1, hz2⟩ := infoB
  have := run_make (P := Try.prog) w 23 30 i0 (.slice none 0 0) Try.underlying23 hi hz0 .i64 .i64 0 (n : Int) (by decide) (by omega) (by rw [hz2]; omega) (by omega)
  rw [this, hz1, Int.toNat_natCast, Nat.mul_one]
  rfl
/-- What cut tells: the cells, as parts of the room. -/
def PCut (w : World) (b : Nat) (rm : List UInt8) (n t : Nat) (e : Ending) (w' : World) : Prop := ∃ va vn vc, e = .returned (.tuple #[.slice va vn vc, .bool (M.cutC rm n t).isSome]) ∧ Hid (Adds w w' ∧ ∀ cs, M.cutC rm n t = some cs → ∃ hs : List Part, hs.map (·.bs) = cs ∧ vn = hs.length ∧ GQ w' (fun k => k = b ∨ w.heap.size ≤ k) ⟨va, vc, hs⟩ ∧ hs.length ≤ vc)
set_option maxRecDepth 100000 in
set_option maxHeartbeats 1000000 in
theorem gcut_any (b o : Nat) (rm : List UInt8) (cap n t : Nat) (w : World) (hl : rm.length = 244) (hc : 248 ≤ cap) (hA : At w (some ⟨b, o, none⟩) rm) (hn : n ≤ 255) (ht : t ≤ 65535) :
    Calls Try.prog 90 #[.slice (some ⟨b, o, none⟩) 244 cap, .int .i64 (n : Int), .int .i64 (t : Int)] w (PCut w b rm n t) := by
  by_cases hbig : 244 < 2 * n + t
  · have HC := hid (show M.cutC rm n t = none by rw [M.cutC, if_pos hbig])
    have h1 : (244 : Int) < 2 * (n : Int) + (t : Int) := by omega
    clear hA hl
    go_enter Try.func90, Try.ntmps90
    go_wp2_with fail
    go_ret2
    refine ⟨none, 0, 0, by rw [HC.out]; rfl, Touch.refl _ _, fun cs h => ?_⟩
    rw [HC.out] at h
    cases h
  · have h1 : ¬ (244 : Int) < 2 * (n : Int) + (t : Int) := by omega
    have HR := hid (fun w' (hA' : Adds w w') => show Calls Try.prog 46 #[.slice (some ⟨b, o, none⟩) (2 * n) cap] w' (PRead w' (rm.take (2 * n))) by
      have q := read_any (some ⟨b, o, none⟩) (rm.take (2 * n)) cap w' (by rw [List.length_take]; omega) (fun e => by cases e) ((hA.pre _).adds hA')
      rw [List.length_take, show min (2 * n) rm.length = 2 * n by omega] at q
      exact q)
    have HA := hid hA
    obtain ⟨m, hm⟩ : ∃ m, m = 2 * n := ⟨_, rfl⟩
    have hw1 : IntKind.i64.wrap (2 * (n : Int)) = (m : Int) := by rw [IntKind.wrap_i64]; omega
    have hs1 := run_pre (some ⟨b, o, none⟩) 244 cap m (by omega)
    have hs2 := run_suf_at b o 244 cap m (by omega) (by omega)
    rw [← hm] at HR
    have HM := hid hm
    have h2 : ¬ (244 : Int) < (m : Int) + (t : Int) := by omega
    have h3 : m ≤ 244 := by omega
    have h4 : t ≤ 244 - m := by omega
    clear hA hm h1 hbig
    have hmk := make_cells n (by omega)
    go_enter Try.func90, Try.ntmps90
    go_upto_region 3 with fail
    go_region_held3 (fun _ => True) (trivial) (first | (go_at_call 46; refine (HR.out _ ((Touch.refl _ w).drew)).mono ?_; rintro e w1 ⟨p, rfl, hp, hr, hA1⟩; have H1 := hid (And.intro hp (And.intro hr hA1)); clear hp hr hA1))
    go_wp2_with fail
    have HO := hid (show (w1.alloc (.cells (madeCells #[.slice none 0 0] n) 30)).ownsRow 0 30 1 (.slice (some ⟨w1.heap.size, 0, none⟩) 0 n) 0 [] from World.ownsRow_made (base := 0) (e := 30) (size := 1) w1 (madeCells #[.slice none 0 0] n) n (Nat.zero_le _) (by unfold maxLen; omega) (by rw [size_madeCells, Nat.mul_one]))
    clear hmk hs1 hs2 hw1 HR
    go_loopw [10, 11, 32] (fun v bg i wr => ∃ (k bn : Nat) (hs : List Part), k ≤ n ∧ bn ≤ t ∧ i = .int .i64 (k : Int) ∧ bg = .int .i64 (bn : Int) ∧ hs.length = k ∧ Hid (M.cutK (rm.take m) (rm.drop m) t k = some (hs.map (·.bs), bn) ∧ wr.ownsRow 0 30 1 v k (hs.map PV) ∧ (∀ j, v.ownBlock = some j → p < j) ∧ (∀ x ∈ hs, PQ w (fun k => k = b) x) ∧ RD wr (Ptr p) ⟨0, (rm.take m).drop (2 * k)⟩ ∧ Adds w wr)) (fun _ _ i _ => n - (intOf i).toNat)
    case atStart => exact ⟨0, 0, [], Nat.zero_le _, Nat.zero_le _, rfl, rfl, rfl, rfl, HO.out, fun j hj => by simp [Value.ownBlock] at hj; subst hj; exact H1.out.2.1.lt, fun x hx => (by cases hx), H1.out.2.1.adds ((Touch.refl _ w1).alloc _), (((Touch.refl _ w).drew).trans H1.out.2.2).alloc _⟩
    case round =>
      obtain ⟨k, bn, hs, hk, hbn, rfl, rfl, hlen, HI⟩ := hrel
      by_cases hlt : k < n
      · obtain ⟨en, hen⟩ : ∃ en, en = M.unfix (((rm.take m).drop (2 * k)).take 2) := ⟨_, rfl⟩
        have h2l : (((rm.take m).drop (2 * k)).take 2).length = 2 := by rw [List.length_take, List.length_drop, List.length_take]; have := HM.out; omega
        have he16 : en ≤ 65535 := by have := (M.fix_unfix 2 _ h2l).2; rw [← hen] at this; omega
        have HX := hid (show Calls Try.prog 48 #[Ptr p, .int .i64 2] wr (PR wr (Ptr p) (.int .u64 (en : Int)) ⟨0, (rm.take m).drop (2 * (k + 1))⟩) by
          have q := fixed_any 2 HI.out.2.2.2.2.1
          rw [fixedR_ok (k := 2) (by decide) (by rw [List.length_drop, List.length_take]; have := HM.out; omega), ← hen, List.drop_drop, show 2 * k + 2 = 2 * (k + 1) by omega] at q
          exact q)
        have HE := hid hen
        have HL := hid hlen
        clear hen h2l hlen
        by_cases hb1 : en < bn
        · have HC := hid (show M.cutC rm n t = none by
            have q := M.cutK_bad HI.out.1 (.inl (by rw [← HE.out]; exact hb1))
            rw [M.cutC, if_neg (by have := HM.out; omega), ← HM.out, M.cutK_none' q (by omega)])
          go_wp2_with (first | (go_at_call 48; refine HX.out.mono ?_; rintro e w3 ⟨rfl, hr3, hT3⟩; have H3 := hid hT3; clear hr3 hT3))
          go_ret2
          refine ⟨none, 0, 0, by rw [HC.out]; rfl, Adds.own HI.out.2.2.2.2.2 H3.out H1.out.1, fun cs h => ?_⟩
          rw [HC.out] at h
          cases h
        · by_cases hb2 : t < en
          · have HC := hid (show M.cutC rm n t = none by
              have q := M.cutK_bad HI.out.1 (.inr (by rw [← HE.out]; exact hb2))
              rw [M.cutC, if_neg (by have := HM.out; omega), ← HM.out, M.cutK_none' q (by omega)])
            go_wp2_with (first | (go_at_call 48; refine HX.out.mono ?_; rintro e w3 ⟨rfl, hr3, hT3⟩; have H3 := hid hT3; clear hr3 hT3))
            go_ret2
            refine ⟨none, 0, 0, by rw [HC.out]; rfl, Adds.own HI.out.2.2.2.2.2 H3.out H1.out.1, fun cs h => ?_⟩
            rw [HC.out] at h
            cases h
          · have hs3 := run_mid_at b (o + m) (244 - m) (cap - m) bn en (by omega) (by omega) (by omega)
            have hPL : en - bn = (((rm.drop m).drop bn).take (en - bn)).length := by rw [List.length_take, List.length_drop, List.length_drop]; omega
            obtain ⟨PL, hPL0⟩ : ∃ PL, PL = en - bn := ⟨_, rfl⟩
            rw [← hPL0] at hs3 hPL
            have HP := hid (And.intro hPL hPL0)
            have HK := hid (show M.cutK (rm.take m) (rm.drop m) t (k + 1) = some (hs.map (·.bs) ++ [((rm.drop m).drop bn).take PL], en) by
              have q := M.cutK_more HI.out.1 (by rw [← HE.out]; show ¬ (en < bn ∨ t < en); omega)
              rw [← HE.out] at q
              rw [hPL0]; exact q)
            have HQ := hid (show PQ w (fun k => k = b) ⟨some ⟨b, o + m + bn, none⟩, ((rm.drop m).drop bn).take PL, cap - m - bn⟩ from
              ⟨(((HA.out.suf m).suf bn).pre PL).cq (fun b' o' e => by cases e; rfl), fun e => (by cases e)⟩)
            clear hPL hPL0
            go_wp2_with (first
              | (go_at_call 48; refine HX.out.mono ?_; rintro e w3 ⟨rfl, hr3, hT3⟩
                 have H3 := hid (And.intro hr3 hT3)
                 have HA3 := hid (fun o => show (w3.alloc o).ownsRow 0 30 1 u10 k (hs.map PV) from row_touch (row_touch HI.out.2.1 hT3 (fun j hj c => by have := HI.out.2.2.1 j hj; simp only [Own1, Value.pointer.injEq, Option.some.injEq, Addr.mk.injEq] at c; omega)) ((Touch.refl _ w3).alloc o) (fun _ _ => id))
                 clear hr3 hT3)
              | (at_builtin; refine append_b1 rfl _ _ rfl u10 k (hs.map PV) rfl (HA3.out _) w3.heap.size (.slice (some ⟨b, o + m + bn, none⟩) PL (cap - m - bn)) rfl (cellOf (heap_alloc_new w3 _) 0) rfl (by omega) ?_; intro v5 w5 G5; have HG := hid G5; clear G5))
            go_roundw
            case rel =>
              have hp3 : p < w3.heap.size := H3.out.1.lt
              have hw3 : Adds w w3 := Adds.own HI.out.2.2.2.2.2 H3.out.2 H1.out.1
              have hv : ∀ j, u10.ownBlock = some j → p < j := HI.out.2.2.1
              refine ⟨k + 1, en, hs ++ [⟨some ⟨b, o + m + bn, none⟩, ((rm.drop m).drop bn).take PL, cap - m - bn⟩], by omega, by omega, by go_num, by go_num, by simp [HL.out], ?_, ?_, ?_, ?_, ?_, ?_⟩
              · rw [List.map_append]; exact HK.out
              · have q := HG.out.1
                rw [List.map_append]
                show w5.ownsRow 0 30 1 v5 (k + 1) (hs.map PV ++ [.slice (some ⟨b, o + m + bn, none⟩) (((rm.drop m).drop bn).take PL).length (cap - m - bn)])
                rw [← HP.out.1]; exact q
              · intro j hj
                rcases HG.out.2.2 with c | c
                · exact hv j (by rw [← c]; exact hj)
                · rw [c] at hj; cases hj; simp; omega
              · intro x hx
                rcases List.mem_append.1 hx with hx | hx
                · exact HI.out.2.2.2.1 x hx
                · rw [List.mem_singleton.1 hx]; exact HQ.out
              · exact (H3.out.1.above ((Touch.refl (fun _ => False) w3).alloc _) (fun _ c => c.elim)).above HG.out.touch (fun j c => hv j c)
              · exact (hw3.alloc _).then HG.out.touch (fun j hj c => by have := hv j c; have := H1.out.1; simp at this; omega)
            case measure => simp [intOf]; omega
      · obtain rfl : k = n := by omega
        obtain ⟨va, vc, hv10, hle, hnon, hq⟩ := own_cq HI.out.2.1
        subst hv10
        have HV := hid (show ∃ hs' : List Part, hs'.map (·.bs) = hs.map (·.bs) ∧ k = hs'.length ∧ GQ wr (fun k => k = b ∨ w.heap.size ≤ k) ⟨va, vc, hs'⟩ ∧ hs'.length ≤ vc from ⟨hs, rfl, hlen.symm, ⟨hq.mono (fun j _ c => .inr (by have h1 := HI.out.2.2.1 j c; have h2 := H1.out.1; simp at h2; omega)), hnon, fun x hx => ((HI.out.2.2.2.1 x hx).adds HI.out.2.2.2.2.2).mono (fun _ _ c => .inl c)⟩, by omega⟩)
        clear hq hnon hlen hle
        by_cases hbt : bn = t
        · subst hbt
          have hs4 := run_suf_at b (o + m) (244 - m) (cap - m) bn (by omega) (by omega)
          have hrl : ((rm.drop m).drop bn).length = 244 - m - bn := by rw [List.length_drop, List.length_drop]; omega
          have HN := hid (show Calls Try.prog 97 #[.slice (some ⟨b, o + m + bn, none⟩) (244 - m - bn) (cap - m - bn), .func (.func 98) #[] #[]] wr (Tells (.bool (M.some0 ((rm.drop m).drop bn))) wr) by
            have q := contains_any (some ⟨b, o + m + bn, none⟩) ((rm.drop m).drop bn) (cap - m - bn) wr ((((HA.out.suf m).suf bn)).adds HI.out.2.2.2.2.2) (by omega)
            rw [hrl] at q
            exact q)
          obtain ⟨z, hz⟩ : ∃ z, z = M.some0 ((rm.drop m).drop bn) := ⟨_, rfl⟩
          rw [← hz] at HN
          have HC := hid (show M.cutC rm k bn = if z = false then some (hs.map (·.bs)) else none by
            rw [M.cutC, if_neg (by have := HM.out; omega), ← HM.out, HI.out.1]
            simp only
            rw [← hz]
            simp)
          clear hz hrl
          cases z with
          | false =>
            go_wp2_with (first | (go_at_call 97; refine HN.out.mono ?_; rintro e _ ⟨rfl, hw⟩; rw [hw]; clear hw))
            go_ret2
            refine ⟨va, k, vc, by rw [HC.out]; rfl, HI.out.2.2.2.2.2, fun cs h => ?_⟩
            rw [HC.out] at h
            cases h
            exact HV.out
          | true =>
            go_wp2_with (first | (go_at_call 97; refine HN.out.mono ?_; rintro e _ ⟨rfl, hw⟩; rw [hw]; clear hw))
            go_ret2
            refine ⟨va, k, vc, by rw [HC.out]; rfl, HI.out.2.2.2.2.2, fun cs h => ?_⟩
            rw [HC.out] at h
            cases h
        · have hbt' : ((bn : Int) == (t : Int)) = false := by simp; omega
          have HC := hid (show M.cutC rm k t = none by
            rw [M.cutC, if_neg (by have := HM.out; omega), ← HM.out, HI.out.1]
            simp only
            rw [if_neg (fun c => hbt c.1)])
          go_wp2_with fail
          go_ret2
          refine ⟨va, k, vc, by rw [HC.out]; rfl, HI.out.2.2.2.2.2, fun cs h => ?_⟩
          rw [HC.out] at h
          cases h
end Go.Proofs.Ytplppnngmlljnaa

/- What a page says: page.read. -/
namespace Go.Proofs.Ytplppnngmlljnaa
open Go.RowKit

namespace M
def noP (bs : List UInt8) : Nat := match readP bs with
  | none => 0
  | some p => p.no
def errP (bs : List UInt8) : Nat := match readP bs with
  | none => 22
  | some _ => 0
set_option maxRecDepth 100000 in
theorem none_all {bs : List UInt8} (h : readP bs = none) : noP bs = 0 ∧ kindP bs = 0 ∧ cellsP bs = [] ∧ errP bs = 22 := by
  unfold noP kindP cellsP errP
  rw [h]; exact ⟨rfl, rfl, rfl, rfl⟩
set_option maxRecDepth 100000 in
theorem some_all {bs : List UInt8} {p : Pg} (h : readP bs = some p) : noP bs = p.no ∧ kindP bs = p.kind ∧ cellsP bs = p.cells ∧ errP bs = 0 := by
  unfold noP kindP cellsP errP
  rw [h]; exact ⟨rfl, rfl, rfl, rfl⟩
end M
set_option maxRecDepth 100000 in
set_option maxHeartbeats 400000 in
theorem byte_any {v : Value} {s : M.St} {w : World} (h : RD w v s) : Calls Try.prog 89 #[v] w (PR w v (.int .u8 ((M.fixedR 1 s).1 : Int)) (M.fixedR 1 s).2) := by
  have H := hid (fixed_any 1 h)
  have hlt : (M.fixedR 1 s).1 < 256 := by
    have h1 := (M.fix_unfix _ (M.takeR 1 s).1 rfl).2
    have h2 : 256 ^ (M.takeR 1 s).1.length ≤ 256 ^ 1 := Nat.pow_le_pow_right (by decide) (M.takeR_len 1 s)
    exact Nat.lt_of_lt_of_le h1 (by simpa using h2)
  clear h
  go_enter Try.func89, Try.ntmps89
  go_wp2_with (first | (go_at_call 48; refine H.out.mono ?_; rintro e w' ⟨rfl, h1, h2⟩))
  go_ret
  exact ⟨rfl, h1, h2⟩
set_option maxRecDepth 100000 in
theorem fixed_put {v : Value} {l : List UInt8} {w : World} (z : Int) (k : Nat) (hz : M.clamp z = k) (hl : k ≤ l.length) (h : RD w v ⟨0, l⟩) : Calls Try.prog 48 #[v, .int .i64 z] w (PR w v (.int .u64 (M.unfix (l.take k) : Int)) ⟨0, l.drop k⟩) := by
  have q := fixed_any z h
  rw [fixedR_ok hz hl] at q
  exact q
set_option maxRecDepth 100000 in
theorem byte_put {v : Value} {c : UInt8} {l : List UInt8} {w : World} (h : RD w v ⟨0, c :: l⟩) : Calls Try.prog 89 #[v] w (PR w v (.int .u8 (c.toNat : Int)) ⟨0, l⟩) := by
  have q := byte_any h
  rw [fixedR_ok (k := 1) (by decide) (by simp)] at q
  have e : M.unfix (List.take 1 (c :: l)) = c.toNat := by simp [M.unfix]
  simp only [e, List.drop_succ_cons, List.drop_zero] at q
  exact q
/-- What read tells. -/
def PRd (w : World) (bs : List UInt8) (e : Ending) (w' : World) : Prop := ∃ va vc, ∃ hs : List Part, e = .returned (.tuple #[.agg #[.int .i64 (M.noP bs : Int), .int .u8 ((M.kindP bs).toNat : Int), .slice va hs.length vc], .int .i64 (M.errP bs : Int)]) ∧ Hid (hs.map (·.bs) = M.cellsP bs ∧ GQ w' (fun _ => True) ⟨va, vc, hs⟩ ∧ Adds w w' ∧ hs.length ≤ vc)
theorem GQ.nil (w : World) : GQ w (fun _ => True) ⟨none, 0, []⟩ := ⟨CQ.nil _ _ _, fun _ => rfl, fun _ h => (by cases h)⟩
set_option maxRecDepth 100000 in
set_option maxHeartbeats 1000000 in
theorem gread_long (a : Option Addr) (bs : List UInt8) (n cap : Nat) (w : World) (hn : bs.length = n) (h : n ≠ 256) : Calls Try.prog 73 #[.slice a n cap] w (PRd w bs) := by
  have HN := hid (M.none_all (show M.readP bs = none by rw [M.readP, if_pos (by omega)]))
  have h1 : ((n : Int) != 256) = true := by simp; omega
  clear h hn
  go_enter Try.func73, Try.ntmps73
  go_wp2_with fail
  refine bodyPost_ret (v := .tuple #[.agg #[.int .i64 0, .int .u8 0, .slice none 0 0], .int .i64 22]) (by simp [results, Try.results73, go_sem]) rfl ⟨none, 0, [], ?_, ?_, ?_, ?_, Nat.le_refl _⟩
  · rw [HN.out.1, HN.out.2.1, HN.out.2.2.2]; rfl
  · rw [HN.out.2.2.1]; rfl
  · exact GQ.nil _
  · repeat (first | exact Touch.refl _ _ | refine Touch.alloc ?_ _ | refine Touch.setCell ?_ (fun h => absurd h (by simp)) _)
set_option maxRecDepth 100000 in
/-- What stands ahead of a page's room. -/
theorem first8 {bs : List UInt8} (hl : bs.length = 256) : (bs.take 8).take 4 = bs.take 4 ∧ (bs.take 8).drop 4 = bs.getD 4 0 :: bs.getD 5 0 :: (bs.drop 6).take 2 := by
  refine ⟨by rw [List.take_take]; rfl, ?_⟩
  rw [List.drop_take, List.drop_eq_getElem_cons (by omega : 4 < bs.length), List.drop_eq_getElem_cons (by omega : 5 < bs.length)]
  rw [List.getD_eq_getElem?_getD, List.getElem?_eq_getElem (by omega : 4 < bs.length), List.getD_eq_getElem?_getD, List.getElem?_eq_getElem (by omega : 5 < bs.length)]
  rfl
set_option maxRecDepth 100000 in
theorem read_256 {bs : List UInt8} (hl : bs.length = 256) : M.readP bs = match M.cutC ((bs.drop 8).take 244) (bs.getD 5 0).toNat (M.unfix ((bs.drop 6).take 2)) with
    | none => none
    | some cs => if 2147483647 < M.unfix (bs.take 4) ∨ bs.getD 4 0 = 0 then none else some ⟨M.unfix (bs.take 4), bs.getD 4 0, cs⟩ := by
  rw [M.readP, if_neg (by omega)]
  cases M.cutC ((bs.drop 8).take 244) (bs.getD 5 0).toNat (M.unfix ((bs.drop 6).take 2)) <;> rfl
set_option maxRecDepth 100000 in
set_option maxHeartbeats 1000000 in
theorem gread_256 (b o : Nat) (bs : List UInt8) (cap : Nat) (w : World) (hl : bs.length = 256) (hc : 256 ≤ cap) (hA : At w (some ⟨b, o, none⟩) bs) : Calls Try.prog 73 #[.slice (some ⟨b, o, none⟩) 256 cap] w (PRd w bs) := by
  have hread := read_256 hl
  obtain ⟨f1, f2⟩ := first8 hl
  have hno4 : M.unfix (bs.take 4) < 4294967296 := by have := (M.fix_unfix 4 (bs.take 4) (by rw [List.length_take]; omega)).2; omega
  have l2 : ((bs.drop 6).take 2).length = 2 := by rw [List.length_take, List.length_drop]; omega
  have htt : M.unfix ((bs.drop 6).take 2) ≤ 65535 := by have := (M.fix_unfix 2 _ l2).2; omega
  have hbw : b < w.heap.size := by
    obtain ⟨b', o', e, hc⟩ := hA 0 bs[0] (List.getElem?_eq_getElem (by omega))
    cases e
    exact World.block_lt_of_cell? w _ hc
  have HR := hid (fun w' (hA' : Adds w w') => show Calls Try.prog 46 #[.slice (some ⟨b, o, none⟩) 8 cap] w' (PRead w' (bs.take 8)) by
    have q := read_any (some ⟨b, o, none⟩) (bs.take 8) cap w' (by rw [List.length_take]; omega) (fun e => by cases e) ((hA.pre _).adds hA')
    rw [List.length_take, show min 8 bs.length = 8 by omega] at q
    exact q)
  have HF4 := hid (fun w1 p (h : RD w1 (Ptr p) ⟨0, bs.take 8⟩) => show Calls Try.prog 48 #[Ptr p, .int .i64 4] w1 (PR w1 (Ptr p) (.int .u64 (M.unfix (bs.take 4) : Int)) ⟨0, bs.getD 4 0 :: bs.getD 5 0 :: (bs.drop 6).take 2⟩) by
    have q := fixed_put 4 4 (by decide) (by rw [List.length_take]; omega) h
    rw [f1, f2] at q; exact q)
  have HF2 := hid (fun w1 p (h : RD w1 (Ptr p) ⟨0, (bs.drop 6).take 2⟩) => show Calls Try.prog 48 #[Ptr p, .int .i64 2] w1 (PR w1 (Ptr p) (.int .u64 (M.unfix ((bs.drop 6).take 2) : Int)) ⟨0, []⟩) by
    have q := fixed_put 2 2 (by decide) (by omega) h
    rw [List.take_of_length_le (by omega : ((bs.drop 6).take 2).length ≤ 2), List.drop_eq_nil_of_le (by omega : ((bs.drop 6).take 2).length ≤ 2)] at q
    exact q)
  obtain ⟨oc, hoc⟩ : ∃ oc, oc = M.cutC ((bs.drop 8).take 244) (bs.getD 5 0).toNat (M.unfix ((bs.drop 6).take 2)) := ⟨_, rfl⟩
  obtain ⟨ok, hok⟩ : ∃ ok, ok = oc.isSome := ⟨_, rfl⟩
  have hct := (bs.getD 5 0).toNat_lt
  have HC := hid (fun w1 (hA' : Adds w w1) => show Calls Try.prog 90 #[.slice (some ⟨b, o + 8, none⟩) 244 (cap - 8), .int .i64 ((bs.getD 5 0).toNat : Int), .int .i64 (M.unfix ((bs.drop 6).take 2) : Int)] w1 (fun e w' => ∃ va vn vc, e = .returned (.tuple #[.slice va vn vc, .bool ok]) ∧ Hid (Adds w1 w' ∧ ∀ cs, oc = some cs → ∃ hs : List Part, hs.map (·.bs) = cs ∧ vn = hs.length ∧ GQ w' (fun k => k = b ∨ w1.heap.size ≤ k) ⟨va, vc, hs⟩ ∧ hs.length ≤ vc)) by
    have q := gcut_any b (o + 8) ((bs.drop 8).take 244) (cap - 8) (bs.getD 5 0).toNat (M.unfix ((bs.drop 6).take 2)) w1 (by rw [List.length_take, List.length_drop]; omega) (by omega) (((hA.suf 8).pre 244).adds hA') (by omega) htt
    unfold PCut at q
    rw [← hoc, ← hok] at q
    exact q)
  rw [← hoc] at hread
  generalize M.unfix (bs.take 4) = no at *
  generalize M.unfix ((bs.drop 6).take 2) = tt at *
  generalize bs.getD 4 0 = kd at *
  generalize bs.getD 5 0 = ct at *
  generalize (bs.drop 6).take 2 = l2' at *
  have hs1 := run_pre (some ⟨b, o, none⟩) 256 cap 8 (by omega)
  have hs2 := run_mid_at b o 256 cap 8 252 (by omega) (by omega) (by omega)
  have HQ := hid hread
  have HK := hid hok
  clear hA hread f1 f2 hoc hok l2 hl
  go_enter Try.func73, Try.ntmps73
  go_upto_region 1 with fail
  obtain ⟨wB, hwB⟩ : ∃ wB, wB = w.alloc (Obj.cells #[Value.int IntKind.i64 0, Value.int IntKind.u8 0, Value.slice none 0 0] 98) := ⟨_, rfl⟩
  have HAB := hid (show Adds w wB by rw [hwB]; exact (Touch.refl _ w).alloc _)
  have HXB := hid (show wB.heap[w.heap.size]? = some (Obj.cells #[Value.int IntKind.i64 0, Value.int IntKind.u8 0, Value.slice none 0 0] 98) by rw [hwB]; exact heap_alloc_new w _)
  rw [← hwB]
  clear hwB
  go_upto_region 6 with (first
    | (go_at_call 46; refine (HR.out wB HAB.out).mono ?_; rintro e w1 ⟨p, rfl, hp, hr, hA1⟩; have P1 := hid hp; have R1 := hid (And.intro hr hA1); clear hp hr hA1)
    | (go_at_call 48; refine (HF2.out w4 p R4.out.1).mono ?_; rintro e w5 ⟨rfl, hr, hT⟩; have R5 := hid (Adds.own R4.out.2 hT P1.out); clear hr hT)
    | (go_at_call 48; refine (HF4.out w1 p R1.out.1).mono ?_; rintro e w2 ⟨rfl, hr, hT⟩; have R2 := hid (And.intro hr (Adds.own R1.out.2 hT P1.out)); clear hr hT)
    | (go_at_call 89; refine (byte_put R3.out.1).mono ?_; rintro e w4 ⟨rfl, hr, hT⟩; have R4 := hid (And.intro hr (Adds.own R3.out.2 hT P1.out)); clear hr hT)
    | (go_at_call 89; refine (byte_put R2.out.1).mono ?_; rintro e w3 ⟨rfl, hr, hT⟩; have R3 := hid (And.intro hr (Adds.own R2.out.2 hT P1.out)); clear hr hT)
    | (go_at_call 90; refine (HC.out w5 (HAB.out.trans R5.out)).mono ?_; rintro e w6 ⟨va, vn, vc, rfl, H6⟩))
  have hb6 := R5.out.trans H6.out.1
  have x6 : w6.heap[w.heap.size]? = some (Obj.cells #[Value.int IntKind.i64 0, Value.int IntKind.u8 0, Value.slice none 0 0] 98) := Touch.at' hb6 HXB.out id
  have c0 := cellOf x6 0
  have c1 := cellOf x6 1
  have c2 := cellOf x6 2
  have f0 := frozen_of_row w6 w.heap.size 0 _ 98 x6
  have f1 := frozen_of_row w6 w.heap.size 1 _ 98 x6
  have f2 := frozen_of_row w6 w.heap.size 2 _ 98 x6
  simp at c0 c1 c2
  have HT := hid (HAB.out.trans hb6)
  have hz5 : w.heap.size ≤ w5.heap.size := Nat.le_trans HAB.out.size R5.out.size
  have hz1 : w.heap.size < w5.heap.size := Nat.lt_of_lt_of_le (lt_of_heap HXB.out) R5.out.size
  clear hb6 x6 HC HF2 HF4 HR R1 R2 R3 R4 P1 hs1 hs2
  by_cases h1 : 2147483647 < no
  · have HN := hid (M.none_all (show M.readP bs = none by rw [HQ.out]; cases oc with | none => rfl | some cs => exact if_pos (.inl h1)))
    have h1' : (2147483647 : Int) < (no : Int) := by omega
    go_wp2_with fail
    refine bodyPost_ret (v := .tuple #[.agg #[.int .i64 0, .int .u8 0, .slice none 0 0], .int .i64 22]) (by simp [results, Try.results73, go_sem, c0, c1, c2]) rfl ⟨none, 0, [], ?_, ?_, ?_, ?_, Nat.le_refl _⟩
    · rw [HN.out.1, HN.out.2.1, HN.out.2.2.2]; rfl
    · rw [HN.out.2.2.1]; rfl
    · exact GQ.nil _
    · repeat (first | exact HT.out | refine Touch.setCell ?_ (fun h => absurd h (by simp)) _)
  · have h1' : ¬ (2147483647 : Int) < (no : Int) := by omega
    by_cases h2 : kd = 0
    · have HN := hid (M.none_all (show M.readP bs = none by rw [HQ.out]; cases oc with | none => rfl | some cs => exact if_pos (.inr h2)))
      have h2' : (kd.toNat : Int) = 0 := by rw [h2]; rfl
      clear h2
      go_wp2_with fail
      refine bodyPost_ret (v := .tuple #[.agg #[.int .i64 0, .int .u8 0, .slice none 0 0], .int .i64 22]) (by simp [results, Try.results73, go_sem, c0, c1, c2]) rfl ⟨none, 0, [], ?_, ?_, ?_, ?_, Nat.le_refl _⟩
      · rw [HN.out.1, HN.out.2.1, HN.out.2.2.2]; rfl
      · rw [HN.out.2.2.1]; rfl
      · exact GQ.nil _
      · repeat (first | exact HT.out | refine Touch.setCell ?_ (fun h => absurd h (by simp)) _)
    · have h2' : ¬ (kd.toNat : Int) = 0 := fun e => h2 (UInt8.toNat_inj.1 (by simpa using (show kd.toNat = 0 by omega)))
      cases oc with
      | none =>
        obtain rfl : ok = false := HK.out
        have HN := hid (M.none_all (show M.readP bs = none from HQ.out))
        clear h2
        go_wp2_with fail
        refine bodyPost_ret (v := .tuple #[.agg #[.int .i64 0, .int .u8 0, .slice none 0 0], .int .i64 22]) (by simp [results, Try.results73, go_sem, c0, c1, c2]) rfl ⟨none, 0, [], ?_, ?_, ?_, ?_, Nat.le_refl _⟩
        · rw [HN.out.1, HN.out.2.1, HN.out.2.2.2]; rfl
        · rw [HN.out.2.2.1]; rfl
        · exact GQ.nil _
        · repeat (first | exact HT.out | refine Touch.setCell ?_ (fun h => absurd h (by simp)) _)
      | some cs =>
        obtain rfl : ok = true := HK.out
        have HN := hid (M.some_all (show M.readP bs = some ⟨no, kd, cs⟩ by rw [HQ.out]; exact if_neg (fun c => by rcases c with c | c; exact h1 c; exact h2 c)))
        obtain ⟨hs, hbs, rfl, hg, hv⟩ := H6.out.2 cs rfl
        have HG := hid (And.intro hbs (And.intro hg hv))
        clear h2 hbs hg hv
        go_wp2_with fail
        refine bodyPost_ret (v := .tuple #[.agg #[.int .i64 (no : Int), .int .u8 (kd.toNat : Int), .slice va hs.length vc], .int .i64 0]) (by simp [results, Try.results73, go_sem, c0, c1, c2]) rfl ⟨va, vc, hs, ?_, ?_, ?_, ?_, HG.out.2.2⟩
        · rw [HN.out.1, HN.out.2.1, HN.out.2.2.2]; rfl
        · rw [HN.out.2.2.1]; exact HG.out.1
        · have hT : Touch (fun k => k = w.heap.size) w6 (((w6.setCell ⟨w.heap.size, 0, none⟩ (.int .i64 (no : Int))).setCell ⟨w.heap.size, 1, none⟩ (.int .u8 (kd.toNat : Int))).setCell ⟨w.heap.size, 2, none⟩ (.slice va hs.length vc)) :=
            Touch.setCell (T := fun k => k = w.heap.size) (Touch.setCell (T := fun k => k = w.heap.size) (Touch.setCell (T := fun k => k = w.heap.size) (Touch.refl _ w6) (p := ⟨w.heap.size, 0, none⟩) (fun _ => rfl) _) (p := ⟨w.heap.size, 1, none⟩) (fun _ => rfl) _) (p := ⟨w.heap.size, 2, none⟩) (fun _ => rfl) _
          exact (HG.out.2.1.touch hT (fun k c e => by subst e; rcases c with c | c <;> omega)).mono (fun _ _ _ => trivial)
        · repeat (first | exact HT.out | refine Touch.setCell ?_ (fun h => absurd h (by simp)) _)
set_option maxRecDepth 100000 in
theorem gread_any (a : Option Addr) (bs : List UInt8) (n cap : Nat) (w : World) (hn : bs.length = n) (hc : n ≤ cap) (hA : At w a bs) : Calls Try.prog 73 #[.slice a n cap] w (PRd w bs) := by
  by_cases h : n = 256
  · subst h
    obtain ⟨b, o, rfl⟩ := hA.ad (by omega)
    exact gread_256 b o bs cap w hn hc hA
  · exact gread_long a bs n cap w hn h
set_option maxRecDepth 100000 in
theorem gread_none {bs : List UInt8} (hR : M.readP bs = none) (a : Option Addr) (n cap : Nat) (w : World) (hn : bs.length = n) (hc : n ≤ cap) (hA : At w a bs) : Calls Try.prog 73 #[.slice a n cap] w (fun e w' => ∃ va vc, e = .returned (.tuple #[.agg #[.int .i64 0, .int .u8 0, .slice va 0 vc], .int .i64 22]) ∧ Adds w w') := by
  refine (gread_any a bs n cap w hn hc hA).mono ?_
  rintro e w' ⟨va, vc, hs, rfl, H⟩
  obtain ⟨h1, h2, h3, h4⟩ := M.none_all hR
  have hg := H.out.1
  rw [h3] at hg
  obtain rfl : hs = [] := by cases hs with | nil => rfl | cons x l => cases hg
  exact ⟨va, vc, by rw [h1, h2, h4]; rfl, H.out.2.2.1⟩
set_option maxRecDepth 100000 in
theorem gread_some {bs : List UInt8} {p : M.Pg} (hR : M.readP bs = some p) (a : Option Addr) (n cap : Nat) (w : World) (hn : bs.length = n) (hc : n ≤ cap) (hA : At w a bs) : Calls Try.prog 73 #[.slice a n cap] w (fun e w' => ∃ va vc, ∃ hs : List Part, e = .returned (.tuple #[.agg #[.int .i64 (p.no : Int), .int .u8 (p.kind.toNat : Int), .slice va p.cells.length vc], .int .i64 0]) ∧ Hid (hs.map (·.bs) = p.cells ∧ GQ w' (fun _ => True) ⟨va, vc, hs⟩ ∧ Adds w w' ∧ hs.length = p.cells.length ∧ p.cells.length ≤ vc)) := by
  refine (gread_any a bs n cap w hn hc hA).mono ?_
  rintro e w' ⟨va, vc, hs, rfl, H⟩
  obtain ⟨h1, h2, h3, h4⟩ := M.some_all hR
  have hg := H.out.1
  rw [h3] at hg
  have hl : hs.length = p.cells.length := by rw [← hg, List.length_map]
  exact ⟨va, vc, hs, by rw [h1, h2, h4, hl]; rfl, hg, H.out.2.1, H.out.2.2.1, hl, by rw [← hl]; exact H.out.2.2.2⟩
set_option maxRecDepth 100000 in
/-- Cells of a page have few bytes. -/
theorem cell_len {p : M.Pg} (hp : p.Ok) {c : List UInt8} (hc : c ∈ p.cells) : c.length ≤ 244 := by
  have h1 := hp.count.2
  have h2 : c.length ≤ p.cells.flatten.length := by
    obtain ⟨s, t, e⟩ := List.append_of_mem hc
    rw [e, List.flatten_append, List.flatten_cons, List.length_append, List.length_append]; omega
  omega
end Go.Proofs.Ytplppnngmlljnaa

/- How many bytes of a page's room cells leave: page.left. -/
namespace Go.Proofs.Ytplppnngmlljnaa
open Go.RowKit

set_option maxRecDepth 100000 in
theorem part_get {w : World} {Q : Nat → Prop} {x : Pl} (h : GQ w Q x) {k : Nat} (hk : k < x.l.length) : ∃ (y : Part) (b o : Nat), x.l[k]? = some y ∧ PQ w Q y ∧ x.a = some ⟨b, o, none⟩ ∧ w.cell? ⟨b, o + k, none⟩ = some (.slice y.a y.bs.length y.cap) := by
  have hx : x.l[k]? = some x.l[k] := List.getElem?_eq_getElem hk
  obtain ⟨b, o, e, _, hc⟩ := h.at_ k (PV x.l[k]) (by rw [List.getElem?_map, hx]; rfl)
  exact ⟨_, b, o, hx, h.all _ (List.getElem_mem _), e, hc⟩
set_option maxRecDepth 100000 in
theorem taken_next {l : List Part} {k : Nat} {y : Part} (h : l[k]? = some y) : M.taken ((l.map (·.bs)).take (k + 1)) = M.taken ((l.map (·.bs)).take k) + (2 + y.bs.length) := by
  rw [List.take_add_one, List.getElem?_map, h]
  show M.taken (_ ++ [y.bs]) = _
  rw [M.taken_app, M.taken_one]
set_option maxRecDepth 100000 in
theorem taken_le (l : List (List UInt8)) (k : Nat) : M.taken (l.take k) ≤ M.taken l := by have := M.taken_take l k; omega
/-- What left tells. -/
def PLeft (l : List (List UInt8)) (w : World) (e : Ending) (w' : World) : Prop := ∃ z : Int, e = .returned (.int .i64 z) ∧ w' = w ∧ Hid ((M.taken l ≤ 244 → z = 244 - (M.taken l : Int)) ∧ (244 < M.taken l → z < 0))
set_option maxRecDepth 100000 in
set_option maxHeartbeats 1000000 in
theorem gleft_any {Q : Nat → Prop} (a : Option Addr) (hs : List Part) (n cap : Nat) (hn : hs.length = n) (w : World) (h : GQ w Q ⟨a, cap, hs⟩) (hb : ∀ x ∈ hs, x.bs.length ≤ 1000000000000000) (hl : n ≤ 1000000000000000) : Calls Try.prog 62 #[.slice a n cap] w (PLeft (hs.map (·.bs)) w) := by
  have HG := hid h
  have HB := hid hb
  have HN := hid hn
  clear h hb hn
  go_enter Try.func62, Try.ntmps62
  go_wp2_with fail
  go_loopw [3, 8] (fun r i wr => ∃ (k t : Nat), k ≤ n ∧ t ≤ 244 ∧ i = .int .i64 (k : Int) ∧ r = .int .i64 (244 - (t : Int)) ∧ Hid (t = M.taken ((hs.map (·.bs)).take k)) ∧ wr = w) (fun _ i _ => n - (intOf i).toNat)
  case atStart => exact ⟨0, 0, Nat.zero_le _, Nat.zero_le _, rfl, rfl, rfl, rfl⟩
  case round =>
    obtain ⟨k, t, hk, ht, rfl, rfl, HI, hw⟩ := hrel
    obtain rfl := hw.symm
    by_cases hlt : k < n
    · obtain ⟨y, b, o, hy, hq, ha, hc⟩ := part_get HG.out (k := k) (by rw [HN.out]; exact hlt)
      have ha' : a = some ⟨b, o, none⟩ := ha
      subst ha'
      have hyl := HB.out y (List.mem_of_getElem? hy)
      have HY := hid (taken_next hy)
      obtain ⟨yl, hyl0⟩ : ∃ yl, yl = y.bs.length := ⟨_, rfl⟩
      rw [← hyl0] at hc hyl HY
      clear hy hq ha hyl0
      by_cases hneg : 244 < t + (2 + yl)
      · have h1 : (244 : Int) - (t : Int) - (2 + (yl : Int)) < 0 := by omega
        go_wp2_with fail
        go_ret
        refine ⟨244 - (t : Int) - (2 + (yl : Int)), by go_num, rfl, fun c => ?_, fun _ => h1⟩
        have h2 := taken_le (hs.map (·.bs)) (k + 1)
        have h3 := HY.out
        have h4 := HI.out
        omega
      · have h1 : ¬ (244 : Int) - (t : Int) - (2 + (yl : Int)) < 0 := by omega
        go_wp2_with fail
        go_roundw
        case rel => exact ⟨k + 1, t + (2 + yl), by omega, by omega, by go_num, by go_num, hid (by rw [HY.out, ← HI.out]), by first | rfl | trivial⟩
        case measure => simp [intOf]; omega
    · obtain rfl : k = n := by omega
      have HE := hid (show t = M.taken (hs.map (·.bs)) by rw [HI.out, List.take_of_length_le (by rw [List.length_map, HN.out]; exact Nat.le_refl _)])
      go_wp2_with fail
      go_ret
      exact ⟨_, rfl, rfl, fun _ => by rw [← HE.out], fun c => by have := HE.out; omega⟩
end Go.Proofs.Ytplppnngmlljnaa

/- A page as it is laid, step by step. -/
namespace Go.Proofs.Ytplppnngmlljnaa.M

/-- Bytes put over bytes. -/
def splice (cs : List UInt8) (off : Nat) (xs : List UInt8) : List UInt8 := cs.take off ++ xs ++ cs.drop (off + xs.length)
set_option maxRecDepth 100000 in
theorem splice_zero (P Q : List UInt8) (m : Nat) (xs : List UInt8) (h : xs.length ≤ m) {off : Nat} (ho : P.length = off) : splice (P ++ (List.replicate m 0 ++ Q)) off xs = P ++ (xs ++ (List.replicate (m - xs.length) 0 ++ Q)) := by
  subst ho
  rw [splice, List.take_left' rfl, ← List.drop_drop, List.drop_left' rfl, List.drop_append_of_le_length (by rw [List.length_replicate]; exact h), List.drop_replicate, List.append_assoc]
/-- Ahead of how many bytes cells have. -/
def hd6 (no : Nat) (kind : UInt8) (n : Nat) : List UInt8 := fix no 4 ++ [kind, UInt8.ofNat n]
set_option maxRecDepth 100000 in
theorem len_hd6 (no : Nat) (kind : UInt8) (n : Nat) : (hd6 no kind n).length = 6 := by rw [hd6, List.length_append, len_fix]; rfl
/-- The first k cells are laid, and where they end. -/
def layK (no : Nat) (kind : UInt8) (cs : List (List UInt8)) (k : Nat) : List UInt8 :=
  (hd6 no kind cs.length ++ [0, 0]) ++ ((ends 0 (cs.take k) ++ List.replicate (2 * (cs.length - k)) 0) ++ ((cs.take k).flatten ++ List.replicate (248 - 2 * cs.length - (cs.take k).flatten.length) 0))
set_option maxRecDepth 100000 in
theorem lay0 (no : Nat) : splice (List.replicate 256 0) 0 (fix no 4) = fix no 4 ++ List.replicate 252 0 := by
  rw [splice, len_fix, List.drop_replicate, List.take_zero, List.nil_append]
set_option maxRecDepth 100000 in
theorem lay1 (no : Nat) (k l : UInt8) : ((fix no 4 ++ List.replicate 252 (0 : UInt8)).set 4 k).set 5 l = fix no 4 ++ (k :: l :: List.replicate 250 0) := by
  have h := len_fix 4 no
  rw [List.set_append_right _ _ (by omega), List.set_append_right _ _ (by omega), h]
  rfl
set_option maxRecDepth 100000 in
theorem at4 (n : Nat) : (fix n 4 ++ List.replicate 252 (0 : UInt8))[4]? = some 0 := by
  rw [List.getElem?_append_right (by rw [len_fix]; decide), len_fix]; rfl
set_option maxRecDepth 100000 in
theorem at5 (n : Nat) : (fix n 4 ++ List.replicate 252 (0 : UInt8))[5]? = some 0 := by
  rw [List.getElem?_append_right (by rw [len_fix]; decide), len_fix]; rfl
set_option maxRecDepth 100000 in
theorem lay2 (no : Nat) (kind : UInt8) (cs : List (List UInt8)) (h : cs.length ≤ 122) : fix no 4 ++ (kind :: UInt8.ofNat cs.length :: List.replicate 250 0) = layK no kind cs 0 := by
  rw [layK, hd6]
  simp only [List.take_zero, ends, List.flatten_nil, List.length_nil, List.nil_append, Nat.sub_zero]
  rw [List.replicate_append_replicate, show 2 * cs.length + (248 - 2 * cs.length) = 248 by omega, List.append_assoc, List.append_assoc]
  rfl
set_option maxRecDepth 100000 in
theorem flat_le (cs : List (List UInt8)) (k : Nat) : (cs.take k).flatten.length ≤ cs.flatten.length := by
  conv => rhs; rw [← List.take_append_drop k cs]
  rw [List.flatten_append, List.length_append]; omega
set_option maxRecDepth 100000 in
theorem flat_nx {cs : List (List UInt8)} {k : Nat} {c : List UInt8} (hc : cs[k]? = some c) : (cs.take (k + 1)).flatten = (cs.take k).flatten ++ c := by
  rw [List.take_add_one, hc]; simp
/-- The cell k is laid, too. -/
def layM (no : Nat) (kind : UInt8) (cs : List (List UInt8)) (k : Nat) : List UInt8 :=
  (hd6 no kind cs.length ++ [0, 0]) ++ ((ends 0 (cs.take k) ++ List.replicate (2 * (cs.length - k)) 0) ++ ((cs.take (k + 1)).flatten ++ List.replicate (248 - 2 * cs.length - (cs.take (k + 1)).flatten.length) 0))
set_option maxRecDepth 100000 in
/-- A cell laid. -/
theorem lay3 (no : Nat) (kind : UInt8) {cs : List (List UInt8)} {k : Nat} {c : List UInt8} (h : taken cs ≤ 244) (hc : cs[k]? = some c) :
    splice (layK no kind cs k) (8 + 2 * cs.length + (cs.take k).flatten.length) c = layM no kind cs k := by
  unfold layM
  have hk : k < cs.length := (List.getElem?_eq_some_iff.1 hc).1
  have h1 := flat_le cs (k + 1)
  rw [flat_nx hc, List.length_append] at h1
  have h2 : cs.flatten.length ≤ 244 - 2 * cs.length := by unfold taken at h; omega
  have e := splice_zero ((hd6 no kind cs.length ++ [0, 0]) ++ ((ends 0 (cs.take k) ++ List.replicate (2 * (cs.length - k)) 0) ++ (cs.take k).flatten)) [] (248 - 2 * cs.length - (cs.take k).flatten.length) c (by unfold taken at h; omega) (off := 8 + 2 * cs.length + (cs.take k).flatten.length) (by
    simp only [List.length_append, len_hd6, len_ends, List.length_replicate, List.length_take, List.length_cons, List.length_nil]; omega)
  rw [List.append_nil, List.append_nil] at e
  have e2 : layK no kind cs k = (hd6 no kind cs.length ++ [0, 0]) ++ ((ends 0 (cs.take k) ++ List.replicate (2 * (cs.length - k)) 0) ++ (cs.take k).flatten) ++ List.replicate (248 - 2 * cs.length - (cs.take k).flatten.length) 0 := by
    rw [layK]; simp only [List.append_assoc]
  rw [e2, e, flat_nx hc, List.length_append, Nat.sub_sub]
  simp only [List.append_assoc]
set_option maxRecDepth 100000 in
/-- Where it ends, laid. -/
theorem lay4 (no : Nat) (kind : UInt8) {cs : List (List UInt8)} {k : Nat} {c : List UInt8} (hc : cs[k]? = some c) :
    splice (layM no kind cs k) (8 + 2 * k) (fix (cs.take (k + 1)).flatten.length 2) = layK no kind cs (k + 1) := by
  unfold layM
  have hk : k < cs.length := (List.getElem?_eq_some_iff.1 hc).1
  have e := splice_zero ((hd6 no kind cs.length ++ [0, 0]) ++ ends 0 (cs.take k)) ((cs.take (k + 1)).flatten ++ List.replicate (248 - 2 * cs.length - (cs.take (k + 1)).flatten.length) 0) (2 * (cs.length - k)) (fix (cs.take (k + 1)).flatten.length 2) (by rw [len_fix]; omega) (off := 8 + 2 * k) (by
    simp only [List.length_append, len_hd6, len_ends, List.length_take, List.length_cons, List.length_nil]; omega)
  have e3 : ends 0 (cs.take (k + 1)) = ends 0 (cs.take k) ++ fix (cs.take (k + 1)).flatten.length 2 := by
    rw [flat_nx hc, List.length_append]
    conv => lhs; rw [List.take_add_one, hc]
    show ends 0 (_ ++ [c]) = _
    rw [ends_snoc, Nat.zero_add]
  simp only [List.append_assoc] at e ⊢
  rw [e, layK, e3, len_fix, show 2 * (cs.length - k) - 2 = 2 * (cs.length - (k + 1)) by omega]
  simp only [List.append_assoc]
set_option maxRecDepth 100000 in
/-- The last: how many bytes cells have. -/
theorem lay5 (no : Nat) (kind : UInt8) {cs : List (List UInt8)} (h : taken cs ≤ 244) : splice (layK no kind cs cs.length) 6 (fix cs.flatten.length 2) = pbytes ⟨no, kind, cs⟩ := by
  have e := splice_zero (hd6 no kind cs.length) (ends 0 cs ++ (cs.flatten ++ List.replicate (248 - 2 * cs.length - cs.flatten.length) 0)) 2 (fix cs.flatten.length 2) (by rw [len_fix]; omega) (off := 6) (len_hd6 _ _ _)
  have e2 : layK no kind cs cs.length = hd6 no kind cs.length ++ (List.replicate 2 0 ++ (ends 0 cs ++ (cs.flatten ++ List.replicate (248 - 2 * cs.length - cs.flatten.length) 0))) := by
    rw [layK, List.take_length, Nat.sub_self, Nat.mul_zero, List.replicate_zero, List.append_nil]
    simp only [List.append_assoc]; rfl
  rw [e2, e, len_fix, Nat.sub_self, List.replicate_zero, List.nil_append, pbytes, pfirst, phead, room, hd6]
  simp only [List.append_assoc, List.cons_append, List.nil_append]
  congr 6
  rw [show [(0 : UInt8), 0, 0, 0] = List.replicate 4 0 from rfl, List.replicate_append_replicate]
  congr 1
  unfold taken at h ⊢
  omega
end Go.Proofs.Ytplppnngmlljnaa.M

/- More steps for regions that draw. -/
namespace Go.Proofs.Ytplppnngmlljnaa
section
variable {P : Program} {ops : Array Oper} {Q : Exit → Act → World → Prop} {md : Region.Mode} {S : World → Prop}
set_option maxRecDepth 100000 in
/-- One comes up alone. -/
theorem H_do {i : Nat} {o : Oper} (d : Option Nat) {fuel : Nat} {listed : Array Bool} {a : Act} {w : World} (hr : Region.ready md ops listed = [i]) (ho : ops[i]? = some o) (hd : o.dst = d)
    (hw : Region.wanted o (yielded ops a.tmps) = true) (h : ∀ K' : Act → World → Prop, (∀ v w', S w' → wpAnyH P md ops Q S fuel (listed.setIfInBounds i true) (a.put d v) w' → K' (a.put o.dst v) w') → Oper.wp P o a w K' Q) : wpAnyH P md ops Q S (fuel + 1) listed a w := by
  refine wpAnyH_all hr (by simp) (fun j hj => ?_)
  obtain rfl := List.mem_singleton.1 hj
  refine wpOp_step ho (fun K' hK => ?_)
  rw [if_pos hw]
  exact h K' (fun v w' hS hW => hK _ _ ⟨hS, by rw [hd]; exact hW⟩)
end
end Go.Proofs.Ytplppnngmlljnaa

/- The page that says this: (content).page. -/
namespace Go.Proofs.Ytplppnngmlljnaa
open Go.RowKit

set_option maxRecDepth 100000 in
theorem sliceA_h (g h : Nat) (h3 : h ≤ 256) (w : World) : (Instr.sliceAt 121 (.pointer (some ⟨g, 0, none⟩)) none (some (.int .i64 (h : Int))) none).run Try.prog w = .ok (.slice (some ⟨g, 0, none⟩) h 256) w := by
  rw [run_sliceAt_array_h (P := Try.prog) w 121 ⟨g, 0, none⟩ u43 .i64 (h : Int) (by omega) (by rw [l43]; omega), e43, sz5, l43]
  simp only [Result.andThen, slicedAt, Int.toNat_natCast, Nat.sub_zero]
  rw [if_neg (by decide), Addr.add_mid]
set_option maxRecDepth 100000 in
theorem sliceA_lh (g l h : Nat) (h1 : l ≤ h) (h3 : h ≤ 256) (hl : l < 256) (w : World) : (Instr.sliceAt 121 (.pointer (some ⟨g, 0, none⟩)) (some (.int .i64 (l : Int))) (some (.int .i64 (h : Int))) none).run Try.prog w = .ok (.slice (some ⟨g, l, none⟩) (h - l) (256 - l)) w := by
  rw [run_sliceAt_array_lh (P := Try.prog) w 121 ⟨g, 0, none⟩ u43 .i64 .i64 (l : Int) (h : Int) (by omega) (by omega) (by rw [l43]; omega), e43, sz5, l43]
  simp only [Result.andThen, slicedAt, Int.toNat_natCast, Nat.mul_one]
  rw [if_neg (by omega), Addr.add_mid, Nat.zero_add]
set_option maxRecDepth 100000 in
/-- Bytes copied into a sector, where the operation stands alone. -/
theorem wp_copy_sec {w : World} {o : Oper} {act : Act} {K : Act → World → Prop} {Q : Exit → Act → World → Prop} (d s : Operand)
    (ho : o.op = .call { callee := .builtin .copy, args := #[d, s], argTypes := #[30, 30] }) (g off n cap : Nat) (hd : act.eval d = .slice (some ⟨g, off, none⟩) n cap) (a : Option Addr) (xs : List UInt8) (cx m : Nat) (hm : xs.length = m) (hs : act.eval s = .slice a m cx)
    (cs ds : List UInt8) (hds : M.splice cs off xs = ds) (hS : Sec w g cs) (hA : At w a xs) (hc : a = none → cx = 0) (hx : xs.length ≤ n) (hfit : off + xs.length ≤ 256)
    (h : ∀ w', Sec w' g ds → Touch (fun k => k = g) w w' → K (act.put o.dst (.int .i64 (m : Int))) w') : o.wp Try.prog act w K Q := by
  subst hm
  subst hds
  obtain ⟨w', hr, hS', hT⟩ := copy_run w o.type g off n cap a xs cx cs hS hA hc hx hfit
  unfold Oper.wp execOp
  simp only [ho, resolve, invoke, builtin, Sem.run_bind, Sem.run_pure, Result.andThen_ok, List.map_toArray, List.map_cons, List.map_nil, hd, hs, hr]
  exact h w' hS' hT
/-- What is put of a number, in so many bytes. -/
def PFix (w : World) (n k : Nat) (e : Ending) (w' : World) : Prop := ∃ a cap, e = .returned (.slice a k cap) ∧ Hid (Lies w' w'.heap.size a (M.fix n k) cap ∧ Adds w w')
set_option maxRecDepth 100000 in
theorem putFixedK (n k : Nat) (z : Int) (hz : M.clamp z = k) (w : World) : Calls Try.prog 65 #[.slice none 0 0, .int .u64 (n : Int), .int .i64 z] w (PFix w n k) := by
  have h := putFixed_any none [] 0 n z w (by decide) (fun _ => rfl) (At.nil _ _)
  rw [hz, List.nil_append] at h
  refine h.mono ?_
  rintro e w' ⟨v, rfl, h1, h2⟩
  obtain ⟨a, cap, rfl, h3⟩ := Own.lies h1
  exact ⟨a, cap, by rw [M.len_fix], h3, h2⟩
/-- What page tells. -/
def PPage (w : World) (cs : List UInt8) (e : Ending) (w' : World) : Prop := ∃ g, e = .returned (.slice (some ⟨g, 0, none⟩) 256 256) ∧ Hid (w.heap.size ≤ g ∧ Sec w' g cs ∧ Adds w w')
set_option maxRecDepth 100000 in
set_option maxHeartbeats 2000000 in
theorem gpage_any {Q : Nat → Prop} (no : Nat) (kd : UInt8) (a : Option Addr) (hs : List Part) (n cap : Nat) (hn : hs.length = n) (w : World) (h : GQ w Q ⟨a, cap, hs⟩) (hno : no < 2147483648) (ht : M.taken (hs.map (·.bs)) ≤ 244) :
    Calls Try.prog 63 #[.agg #[.int .i64 (no : Int), .int .u8 (kd.toNat : Int), .slice a n cap]] w (PPage w (M.pbytes ⟨no, kd, hs.map (·.bs)⟩)) := by
  obtain ⟨cs, hcs⟩ : ∃ cs, cs = hs.map (·.bs) := ⟨_, rfl⟩
  have hcl : cs.length = n := by rw [hcs, List.length_map, hn]
  rw [← hcs] at ht ⊢
  have ht2 : 2 * n + cs.flatten.length ≤ 244 := by unfold M.taken at ht; omega
  obtain ⟨m, hm⟩ : ∃ m, m = 2 * n := ⟨_, rfl⟩
  have hm2 : m + cs.flatten.length ≤ 244 := by omega
  have hwm : IntKind.i64.wrap (2 * (n : Int)) = (m : Int) := by rw [IntKind.wrap_i64]; omega
  obtain ⟨m8, hm8⟩ : ∃ m8, m8 = 8 + m := ⟨_, rfl⟩
  have hwm8 : IntKind.i64.wrap (8 + (m : Int)) = (m8 : Int) := by rw [IntKind.wrap_i64]; omega
  have hm82 : m8 + cs.flatten.length ≤ 252 := by omega
  obtain ⟨cb, hcb⟩ : ∃ cb, cb = UInt8.ofNat n := ⟨_, rfl⟩
  have hcb2 : IntKind.u8.wrap (n : Int) = (cb.toNat : Int) := by rw [hcb, M.ofNat_toNat _ (by omega)]; show (n : Int) % 256 = _; omega
  have hwn : IntKind.u64.wrap (no : Int) = (no : Int) := by show (no : Int) % 18446744073709551616 = _; omega
  have hn122 : n ≤ 122 := by omega
  have HG := hid h
  have HC := hid (And.intro hcs (And.intro hcl (And.intro ht (And.intro hcb (And.intro (show m8 = 8 + 2 * n by omega) hn)))))
  have hz43 := zero43
  clear h hcs hcl ht hcb hn ht2 hm8 hm2 hm
  go_enter Try.func63, Try.ntmps63
  go_upto_region 2 with fail
  obtain ⟨wA, hwA⟩ : ∃ wA, wA = (w.alloc (Obj.cells #[Value.int IntKind.i64 (no : Int), Value.int IntKind.u8 (kd.toNat : Int), Value.slice a n cap] 98)).alloc (Obj.cells Z256 121) := ⟨_, rfl⟩
  have HA := hid (show Adds w wA by rw [hwA]; exact ((Touch.refl _ w).alloc _).alloc _)
  have HB := hid (show wA.heap[w.heap.size]? = some (Obj.cells #[Value.int IntKind.i64 (no : Int), Value.int IntKind.u8 (kd.toNat : Int), Value.slice a n cap] 98 (0, 0)) by rw [hwA]; exact ((Touch.refl (fun _ => False) _).alloc _).at' (heap_alloc_new w _) id)
  have HS := hid (show Sec wA (w.heap.size + 1) (List.replicate 256 0) by
    rw [hwA]
    have q := Sec.new (w.alloc (Obj.cells #[Value.int IntKind.i64 (no : Int), Value.int IntKind.u8 (kd.toNat : Int), Value.slice a n cap] 98))
    simpa using q)
  rw [← hwA]
  clear hwA hz43
  obtain ⟨B, hB⟩ : ∃ B, B = w.heap.size := ⟨_, rfl⟩
  have HB0 := hid hB
  rw [← hB] at HB HS ⊢
  clear hB
  have hsl4 := sliceA_h (B + 1) 4 (by decide)
  have hsl8 := sliceA_lh (B + 1) 8 252 (by decide) (by decide) (by decide)
  have hslm : ∀ w, (Instr.sliceAt 121 (.pointer (some ⟨B + 1, 0, none⟩)) (some (.int .i64 (m8 : Int))) (some (.int .i64 252)) none).run Try.prog w = .ok (.slice (some ⟨B + 1, m8, none⟩) (252 - m8) (256 - m8)) w := fun w => sliceA_lh (B + 1) m8 252 (by omega) (by decide) (by omega) w
  refine H_begin (S := fun (w' : World) => w'.heap[B]? = some (.cells #[.int .i64 (no : Int), .int .u8 (kd.toNat : Int), .slice a n cap] 98 (0, 0))) (by kernel_rfl) ?_
  have hS : (fun (w' : World) => w'.heap[B]? = some (.cells #[.int .i64 (no : Int), .int .u8 (kd.toNat : Int), .slice a n cap] 98 (0, 0))) wA.drew := HB.out
  refine H_put (i := 0) 9 (v := .slice (some ⟨B + 1, 0, none⟩) 4 256) rfl rfl (by kernel_rfl) (by kernel_rfl) (by kernel_rfl) (fun _ _ _ h => h) (Or.inl ⟨by rfl, fun w' hw' => ?_⟩) hS ?_
  · go_simp
  simp only [Act.put, List.setIfInBounds_toArray, List.set_cons_zero, List.set_cons_succ]
  refine H_put (i := 1) 10 (v := .pointer (some ⟨B, 0, none⟩)) rfl rfl (by kernel_rfl) (by kernel_rfl) (by kernel_rfl) (fun _ _ _ h => h) (Or.inl ⟨by rfl, fun w' hw' => ?_⟩) hS ?_
  · go_simp
  simp only [Act.put, List.setIfInBounds_toArray, List.set_cons_zero, List.set_cons_succ]
  refine H_put (i := 2) 11 (v := .int .i64 (no : Int)) rfl rfl (by kernel_rfl) (by kernel_rfl) (by kernel_rfl) (fun _ _ _ h => h) (Or.inl ⟨by rfl, fun w' hw' => ?_⟩) hS ?_
  · have c : w'.cell? ⟨B, 0, none⟩ = some (.int .i64 (no : Int)) := cellOf (hw') 0; go_simp
  simp only [Act.put, List.setIfInBounds_toArray, List.set_cons_zero, List.set_cons_succ]
  refine H_put (i := 3) 12 (v := .int .u64 (no : Int)) rfl rfl (by kernel_rfl) (by kernel_rfl) (by kernel_rfl) (fun _ _ _ h => h) (Or.inl ⟨by rfl, fun w' hw' => ?_⟩) hS ?_
  · go_simp
  simp only [Act.put, List.setIfInBounds_toArray, List.set_cons_zero, List.set_cons_succ]
  refine H_call (i := 4) 13 65 #[.slice none 0 0, .int .u64 (no : Int), .int .i64 4] (R := PFix wA.drew no 4) (by kernel_rfl) rfl rfl (by rfl) (by go_simp) ?_ ?_
  · exact putFixedK no 4 4 (by decide) wA.drew
  rintro e w1 ⟨a1, cap1, rfl, H1⟩
  have HA1 := hid (show Adds wA w1 from Touch.trans ((Touch.refl _ wA).drew) H1.out.2)
  have hS2 : (fun (w' : World) => w'.heap[B]? = some (.cells #[.int .i64 (no : Int), .int .u8 (kd.toNat : Int), .slice a n cap] 98 (0, 0))) _ := Touch.at' HA1.out HB.out id
  refine ⟨_, _, rfl, hS2, fun w' h => h, ?_⟩
  clear hS; have hS := hS2; clear hS2
  simp only [Act.put, List.setIfInBounds_toArray, List.set_cons_zero, List.set_cons_succ]
  refine H_do (i := 5) (some 14) (by kernel_rfl) rfl rfl (by rfl) (fun K hK => ?_)
  refine wp_copy_sec (.tmp 9) (.tmp 13) rfl (B + 1) 0 4 256 rfl a1 (M.fix no 4) cap1 4 (M.len_fix _ _) rfl (List.replicate 256 0) _ (M.lay0 no) (HS.out.adds HA1.out) H1.out.1.at_ H1.out.1.non (by rw [M.len_fix]; decide) (by rw [M.len_fix]; decide) ?_
  intro w2 hS2 hT2
  have S2 := hid hS2
  have A2 := hid (show Adds w w2 from Adds.one (HA.out.trans HA1.out) hT2 (by have := HB0.out; omega))
  have B2 := hid (show w2.heap[B]? = some (.cells #[.int .i64 (no : Int), .int .u8 (kd.toNat : Int), .slice a n cap] 98 (0, 0)) from Touch.at' hT2 hS (by omega))
  clear hS2 hT2
  have hS2 : (fun (w' : World) => w'.heap[B]? = some (.cells #[.int .i64 (no : Int), .int .u8 (kd.toNat : Int), .slice a n cap] 98 (0, 0))) _ := B2.out
  refine hK (.int .i64 ((4 : Nat) : Int)) _ hS2 ?_
  clear hK K hS; have hS := hS2; clear hS2
  simp only [Act.put, List.setIfInBounds_toArray, List.set_cons_zero, List.set_cons_succ]
  refine wpAnyH_done (by kernel_rfl) ?_ _
  clear HB HS
  go_upto_region 3 with fail
  refine H_begin (S := fun (w' : World) => w'.heap[B]? = some (.cells #[.int .i64 (no : Int), .int .u8 (kd.toNat : Int), .slice a n cap] 98 (0, 0))) (by kernel_rfl) ?_
  have SD := hid (show Sec w2.drew (B + 1) _ from ⟨S2.out.len, S2.out.box⟩)
  have AD := hid (show Adds w w2.drew from A2.out.drew)
  have BD := hid (show w2.drew.heap[B]? = some (.cells #[.int .i64 (no : Int), .int .u8 (kd.toNat : Int), .slice a n cap] 98 (0, 0)) from B2.out)
  generalize w2.drew = wd at SD AD BD ⊢
  have hS : (fun (w' : World) => w'.heap[B]? = some (.cells #[.int .i64 (no : Int), .int .u8 (kd.toNat : Int), .slice a n cap] 98 (0, 0))) wd := BD.out
  clear S2 A2 B2
  refine H_put (i := 0) 15 (v := .pointer (some ⟨B, 1, none⟩)) rfl rfl (by kernel_rfl) (by kernel_rfl) (by kernel_rfl) (fun _ _ _ h => h) (Or.inl ⟨by rfl, fun w' hw' => ?_⟩) hS ?_
  · go_simp
  simp only [Act.put, List.setIfInBounds_toArray, List.set_cons_zero, List.set_cons_succ]
  refine H_put (i := 1) 16 (v := .int .u8 (kd.toNat : Int)) rfl rfl (by kernel_rfl) (by kernel_rfl) (by kernel_rfl) (fun _ _ _ h => h) (Or.inl ⟨by rfl, fun w' hw' => ?_⟩) hS ?_
  · have c : w'.cell? ⟨B, 1, none⟩ = some (.int .u8 (kd.toNat : Int)) := cellOf (hw') 1; go_simp
  simp only [Act.put, List.setIfInBounds_toArray, List.set_cons_zero, List.set_cons_succ]
  refine H_put (i := 2) 17 (v := .pointer (some ⟨B, 2, none⟩)) rfl rfl (by kernel_rfl) (by kernel_rfl) (by kernel_rfl) (fun _ _ _ h => h) (Or.inl ⟨by rfl, fun w' hw' => ?_⟩) hS ?_
  · go_simp
  simp only [Act.put, List.setIfInBounds_toArray, List.set_cons_zero, List.set_cons_succ]
  refine H_put (i := 3) 18 (v := .slice a n cap) rfl rfl (by kernel_rfl) (by kernel_rfl) (by kernel_rfl) (fun _ _ _ h => h) (Or.inl ⟨by rfl, fun w' hw' => ?_⟩) hS ?_
  · have c : w'.cell? ⟨B, 2, none⟩ = some (.slice a n cap) := cellOf (hw') 2; go_simp
  simp only [Act.put, List.setIfInBounds_toArray, List.set_cons_zero, List.set_cons_succ]
  refine H_put (i := 4) 19 (v := .int .i64 (n : Int)) rfl rfl (by kernel_rfl) (by kernel_rfl) (by kernel_rfl) (fun _ _ _ h => h) (Or.inl ⟨by rfl, fun w' hw' => ?_⟩) hS ?_
  · go_simp
  simp only [Act.put, List.setIfInBounds_toArray, List.set_cons_zero, List.set_cons_succ]
  refine H_put (i := 5) 20 (v := .int .u8 (cb.toNat : Int)) rfl rfl (by kernel_rfl) (by kernel_rfl) (by kernel_rfl) (fun _ _ _ h => h) (Or.inl ⟨by rfl, fun w' hw' => ?_⟩) hS ?_
  · go_simp
  simp only [Act.put, List.setIfInBounds_toArray, List.set_cons_zero, List.set_cons_succ]
  refine H_put (i := 6) 21 (v := .pointer (some ⟨B + 1, 4, none⟩)) rfl rfl (by kernel_rfl) (by kernel_rfl) (by kernel_rfl) (fun _ _ _ h => h) (Or.inl ⟨by rfl, fun w' hw' => ?_⟩) hS ?_
  · go_simp
  simp only [Act.put, List.setIfInBounds_toArray, List.set_cons_zero, List.set_cons_succ]
  refine H_do (i := 7) none (by kernel_rfl) rfl rfl (by rfl) (fun K hK => ?_)
  have c4 : wd.cell? ⟨B + 1, 4, none⟩ = some (.int .u8 ((0 : UInt8).toNat : Int)) := SD.out.cell (M.at4 no)
  have f4 : wd.frozen? ⟨B + 1, 4, none⟩ = false := SD.out.frozen 4
  have S3 := hid (SD.out.set 4 kd)
  have A3 := hid (show Adds w (wd.setCell ⟨B + 1, 4, none⟩ (.int .u8 (kd.toNat : Int))) from AD.out.setCell (fun h => absurd h (by have := HB0.out; simp only; omega)) _)
  go_simp
  clear c4 f4
  have hS2 : (fun (w' : World) => w'.heap[B]? = some (.cells #[.int .i64 (no : Int), .int .u8 (kd.toNat : Int), .slice a n cap] 98 (0, 0))) _ := Touch.at' (Touch.setCell (T := fun k => k = B + 1) (Touch.refl _ wd) (p := ⟨B + 1, 4, none⟩) (fun _ => rfl) (.int .u8 (kd.toNat : Int))) BD.out (by omega)
  refine hK (undef) _ hS2 ?_
  clear hK K hS; have hS := hS2; clear hS2
  simp only [Act.put]
  refine H_put (i := 8) 22 (v := .pointer (some ⟨B + 1, 5, none⟩)) rfl rfl (by kernel_rfl) (by kernel_rfl) (by kernel_rfl) (fun _ _ _ h => h) (Or.inl ⟨by rfl, fun w' hw' => ?_⟩) hS ?_
  · go_simp
  simp only [Act.put, List.setIfInBounds_toArray, List.set_cons_zero, List.set_cons_succ]
  refine H_do (i := 9) none (by kernel_rfl) rfl rfl (by rfl) (fun K hK => ?_)
  have c5 : (wd.setCell ⟨B + 1, 4, none⟩ (.int .u8 (kd.toNat : Int))).cell? ⟨B + 1, 5, none⟩ = some (.int .u8 ((0 : UInt8).toNat : Int)) := S3.out.cell (by rw [List.getElem?_set_ne (by decide)]; exact M.at5 no)
  have f5 : (wd.setCell ⟨B + 1, 4, none⟩ (.int .u8 (kd.toNat : Int))).frozen? ⟨B + 1, 5, none⟩ = false := S3.out.frozen 5
  have S4 := hid (S3.out.set 5 cb)
  have A4 := hid (show Adds w ((wd.setCell ⟨B + 1, 4, none⟩ (.int .u8 (kd.toNat : Int))).setCell ⟨B + 1, 5, none⟩ (.int .u8 (cb.toNat : Int))) from A3.out.setCell (fun h => absurd h (by have := HB0.out; simp only; omega)) _)
  have B4 := hid (show ((wd.setCell ⟨B + 1, 4, none⟩ (.int .u8 (kd.toNat : Int))).setCell ⟨B + 1, 5, none⟩ (.int .u8 (cb.toNat : Int))).heap[B]? = some (.cells #[.int .i64 (no : Int), .int .u8 (kd.toNat : Int), .slice a n cap] 98 (0, 0)) from Touch.at' (Touch.setCell (T := fun k => k = B + 1) (Touch.refl _ (wd.setCell ⟨B + 1, 4, none⟩ (.int .u8 (kd.toNat : Int)))) (p := ⟨B + 1, 5, none⟩) (fun _ => rfl) (.int .u8 (cb.toNat : Int))) hS (by omega))
  go_simp
  clear c5 f5
  have hS2 : (fun (w' : World) => w'.heap[B]? = some (.cells #[.int .i64 (no : Int), .int .u8 (kd.toNat : Int), .slice a n cap] 98 (0, 0))) _ := B4.out
  refine hK (undef) _ hS2 ?_
  clear hK K hS; have hS := hS2; clear hS2
  simp only [Act.put]
  refine wpAnyH_done (by kernel_rfl) ?_ _
  have S5 := hid (show Sec ((wd.setCell ⟨B + 1, 4, none⟩ (.int .u8 (kd.toNat : Int))).setCell ⟨B + 1, 5, none⟩ (.int .u8 (cb.toNat : Int))) (B + 1) (M.layK no kd cs 0) by
    have q := S4.out
    rw [M.lay1, HC.out.2.2.2.1, ← HC.out.2.1, M.lay2 _ _ _ (by rw [HC.out.2.1]; exact hn122)] at q
    rw [HC.out.2.2.2.1, ← HC.out.2.1]
    exact q)
  clear S3 S4 A3 SD AD BD hS
  generalize ((wd.setCell ⟨B + 1, 4, none⟩ (.int .u8 (kd.toNat : Int))).setCell ⟨B + 1, 5, none⟩ (.int .u8 (cb.toNat : Int))) = w5 at S5 A4 B4 ⊢
  have B5 := B4
  go_upto_region 4 with fail
  refine H_begin (S := fun (w' : World) => w'.heap[B]? = some (.cells #[.int .i64 (no : Int), .int .u8 (kd.toNat : Int), .slice a n cap] 98 (0, 0))) (by kernel_rfl) ?_
  have hS : (fun (w' : World) => w'.heap[B]? = some (.cells #[.int .i64 (no : Int), .int .u8 (kd.toNat : Int), .slice a n cap] 98 (0, 0))) w5.drew := B5.out
  refine H_put (i := 0) 23 (v := .slice (some ⟨B + 1, 8, none⟩) 244 248) rfl rfl (by kernel_rfl) (by kernel_rfl) (by kernel_rfl) (fun _ _ _ h => h) (Or.inl ⟨by rfl, fun w' hw' => ?_⟩) hS ?_
  · go_simp
  simp only [Act.put, List.setIfInBounds_toArray, List.set_cons_zero, List.set_cons_succ]
  refine H_put (i := 1) 24 (v := .pointer (some ⟨B, 2, none⟩)) rfl rfl (by kernel_rfl) (by kernel_rfl) (by kernel_rfl) (fun _ _ _ h => h) (Or.inl ⟨by rfl, fun w' hw' => ?_⟩) hS ?_
  · go_simp
  simp only [Act.put, List.setIfInBounds_toArray, List.set_cons_zero, List.set_cons_succ]
  refine H_put (i := 2) 25 (v := .slice a n cap) rfl rfl (by kernel_rfl) (by kernel_rfl) (by kernel_rfl) (fun _ _ _ h => h) (Or.inl ⟨by rfl, fun w' hw' => ?_⟩) hS ?_
  · have c : w'.cell? ⟨B, 2, none⟩ = some (.slice a n cap) := cellOf (hw') 2; go_simp
  simp only [Act.put, List.setIfInBounds_toArray, List.set_cons_zero, List.set_cons_succ]
  refine H_put (i := 3) 26 (v := .int .i64 (n : Int)) rfl rfl (by kernel_rfl) (by kernel_rfl) (by kernel_rfl) (fun _ _ _ h => h) (Or.inl ⟨by rfl, fun w' hw' => ?_⟩) hS ?_
  · go_simp
  simp only [Act.put, List.setIfInBounds_toArray, List.set_cons_zero, List.set_cons_succ]
  refine H_put (i := 4) 27 (v := .int .i64 (m : Int)) rfl rfl (by kernel_rfl) (by kernel_rfl) (by kernel_rfl) (fun _ _ _ h => h) (Or.inl ⟨by rfl, fun w' hw' => ?_⟩) hS ?_
  · go_simp
  simp only [Act.put, List.setIfInBounds_toArray, List.set_cons_zero, List.set_cons_succ]
  refine H_put (i := 5) 28 (v := .int .i64 (m8 : Int)) rfl rfl (by kernel_rfl) (by kernel_rfl) (by kernel_rfl) (fun _ _ _ h => h) (Or.inl ⟨by rfl, fun w' hw' => ?_⟩) hS ?_
  · go_simp
  simp only [Act.put, List.setIfInBounds_toArray, List.set_cons_zero, List.set_cons_succ]
  refine H_put (i := 6) 29 (v := .slice (some ⟨B + 1, m8, none⟩) (252 - m8) (256 - m8)) rfl rfl (by kernel_rfl) (by kernel_rfl) (by kernel_rfl) (fun _ _ _ h => h) (Or.inl ⟨by rfl, fun w' hw' => ?_⟩) hS ?_
  · go_simp
  simp only [Act.put, List.setIfInBounds_toArray, List.set_cons_zero, List.set_cons_succ]
  refine H_put (i := 7) 4 (v := .slice (some ⟨B + 1, 8, none⟩) 244 248) rfl rfl (by kernel_rfl) (by kernel_rfl) (by kernel_rfl) (fun _ _ _ h => h) (Or.inl ⟨by rfl, fun w' hw' => ?_⟩) hS ?_
  · go_simp
  simp only [Act.put, List.setIfInBounds_toArray, List.set_cons_zero, List.set_cons_succ]
  refine H_put (i := 8) 5 (v := .slice (some ⟨B + 1, m8, none⟩) (252 - m8) (256 - m8)) rfl rfl (by kernel_rfl) (by kernel_rfl) (by kernel_rfl) (fun _ _ _ h => h) (Or.inl ⟨by rfl, fun w' hw' => ?_⟩) hS ?_
  · go_simp
  simp only [Act.put, List.setIfInBounds_toArray, List.set_cons_zero, List.set_cons_succ]
  refine H_put (i := 9) 6 (v := .int .i64 0) rfl rfl (by kernel_rfl) (by kernel_rfl) (by kernel_rfl) (fun _ _ _ h => h) (Or.inl ⟨by rfl, fun w' hw' => ?_⟩) hS ?_
  · go_simp
  simp only [Act.put, List.setIfInBounds_toArray, List.set_cons_zero, List.set_cons_succ]
  refine wpAnyH_done (by kernel_rfl) ?_ _
  clear hwm hwm8 hslm hsl8 hsl4 hcb2 hwn
  clear hS
  have S6 := hid (show Sec w5.drew (B + 1) (M.layK no kd cs 0) from ⟨S5.out.len, S5.out.box⟩)
  have A6 := hid (show Adds w w5.drew from A4.out.drew)
  have B6 := hid (show w5.drew.heap[B]? = some (.cells #[.int .i64 (no : Int), .int .u8 (kd.toNat : Int), .slice a n cap] 98 (0, 0)) from B5.out)
  generalize w5.drew = w6 at S6 A6 B6 ⊢
  clear S5 A4 B4 B5 HA H1 HA1 hno
  have cB2 : w6.cell? ⟨B, 2, none⟩ = some (.slice a n cap) := by have q := cellOf B6.out 2; simpa using q
  go_wp2_with fail
  clear cB2
  go_loopw [6, 33] (fun ev i wr => ∃ (k E : Nat), k ≤ n ∧ i = .int .i64 (k : Int) ∧ ev = .int .i64 (E : Int) ∧ Hid (E = (cs.take k).flatten.length ∧ Sec wr (B + 1) (M.layK no kd cs k) ∧ wr.heap[B]? = some (.cells #[.int .i64 (no : Int), .int .u8 (kd.toNat : Int), .slice a n cap] 98 (0, 0)) ∧ Adds w wr)) (fun _ i _ => n - (intOf i).toNat)
  case atStart => exact ⟨0, 0, Nat.zero_le _, rfl, rfl, rfl, S6.out, B6.out, A6.out⟩
  case round =>
    obtain ⟨k, E, hk, rfl, rfl, HI⟩ := hrel
    have hEf : E ≤ cs.flatten.length := by rw [HI.out.1]; exact M.flat_le cs k
    by_cases hlt : k < n
    · obtain ⟨y, b, o, hy, hq, ha, hc⟩ := part_get HG.out (k := k) (by show k < hs.length; rw [HC.out.2.2.2.2.2]; exact hlt)
      have ha' : a = some ⟨b, o, none⟩ := ha
      subst ha'
      have hc' : wr.cell? ⟨b, o + k, none⟩ = some (.slice y.a y.bs.length y.cap) := below_adds HI.out.2.2.2 hc
      obtain ⟨yl, hyl⟩ : ∃ yl, yl = y.bs.length := ⟨_, rfl⟩
      have hcy : cs[k]? = some y.bs := by rw [HC.out.1, List.getElem?_map, hy]; rfl
      obtain ⟨E1, hE1⟩ : ∃ E1, E1 = E + yl := ⟨_, rfl⟩
      have hfn : (cs.take (k + 1)).flatten.length = E1 := by rw [M.flat_nx hcy, List.length_append, ← HI.out.1, hE1, hyl]
      have hE1f : E1 ≤ cs.flatten.length := by rw [← hfn]; exact M.flat_le cs (k + 1)
      have hEE : E + yl ≤ cs.flatten.length := by omega
      have HL3 := hid (show M.splice (M.layK no kd cs k) (m8 + E) y.bs = M.layM no kd cs k by
        have q := M.lay3 no kd HC.out.2.2.1 hcy
        rw [HC.out.2.1, ← HI.out.1, ← HC.out.2.2.2.2.1] at q
        exact q)
      rw [← hyl] at hc'
      have HY := hid (And.intro hyl.symm (And.intro hq (And.intro hcy (And.intro hfn hE1))))
      have hs5 := run_suf_at (B + 1) m8 (252 - m8) (256 - m8) E (by omega) (by omega)
      have hadd : (E : Int) + (yl : Int) = (E1 : Int) := by omega
      have hadd2 : wrap64 ((E : Int) + (yl : Int)) = (E1 : Int) := by rw [hadd]; simp [wrap64]; omega
      clear hy hq ha hc hcy hyl hfn hE1
      go_upto_region 9 with (refine copy_sec rfl _ _ rfl (B + 1) (m8 + E) (252 - m8 - E) (256 - m8 - E) rfl y.a y.bs y.cap yl HY.out.1 rfl (M.layK no kd cs k) _ HL3.out HI.out.2.1 ((HY.out.2.1.at_.at).adds HI.out.2.2.2) HY.out.2.1.non (by rw [HY.out.1]; omega) (by rw [HY.out.1]; omega) ?_; intro wq hSq hTq; have SQ := hid hSq; have AQ := hid (show Adds w wq from Adds.one HI.out.2.2.2 hTq (by have := HB0.out; omega)); have BR := hid (show wq.heap[B]? = some (.cells #[.int .i64 (no : Int), .int .u8 (kd.toNat : Int), .slice (some ⟨b, o, none⟩) n cap] 98 (0, 0)) from Touch.at' hTq HI.out.2.2.1 (by omega)); clear hSq hTq)
      obtain ⟨k2, hk2⟩ : ∃ k2, k2 = 2 * k := ⟨_, rfl⟩
      have hwk : IntKind.i64.wrap (2 * (k : Int)) = (k2 : Int) := by rw [IntKind.wrap_i64]; omega
      have hwE : IntKind.u64.wrap (E1 : Int) = (E1 : Int) := by show (E1 : Int) % 18446744073709551616 = _; omega
      have hs6 := run_suf_at (B + 1) 8 244 248 k2 (by omega) (by omega)
      have hk2n : k2 + 2 ≤ 244 := by omega
      have HL4 := hid (show M.splice (M.layM no kd cs k) (8 + k2) (M.fix E1 2) = M.layK no kd cs (k + 1) by
        have q := M.lay4 no kd HY.out.2.2.1
        rw [HY.out.2.2.2.1, ← hk2] at q
        exact q)
      clear hs5 hadd hadd2 hk2 hc' HL3
      refine H_begin (S := fun (w' : World) => w'.heap[B]? = some (.cells #[.int .i64 (no : Int), .int .u8 (kd.toNat : Int), .slice (some ⟨b, o, none⟩) n cap] 98 (0, 0))) (by kernel_rfl) ?_
      have hS : (fun (w' : World) => w'.heap[B]? = some (.cells #[.int .i64 (no : Int), .int .u8 (kd.toNat : Int), .slice (some ⟨b, o, none⟩) n cap] 98 (0, 0))) wq.drew := BR.out
      refine H_put (i := 0) 45 (v := .slice (some ⟨B + 1, 8, none⟩) 244 248) rfl rfl (by kernel_rfl) (by kernel_rfl) (by kernel_rfl) (fun _ _ _ h => h) (Or.inl ⟨by rfl, fun w' hw' => ?_⟩) hS ?_
      · go_simp
      simp only [Act.put, List.setIfInBounds_toArray, List.set_cons_zero, List.set_cons_succ]
      refine H_put (i := 1) 46 (v := .int .i64 (k : Int)) rfl rfl (by kernel_rfl) (by kernel_rfl) (by kernel_rfl) (fun _ _ _ h => h) (Or.inl ⟨by rfl, fun w' hw' => ?_⟩) hS ?_
      · go_simp
      simp only [Act.put, List.setIfInBounds_toArray, List.set_cons_zero, List.set_cons_succ]
      refine H_put (i := 2) 47 (v := .int .i64 (k2 : Int)) rfl rfl (by kernel_rfl) (by kernel_rfl) (by kernel_rfl) (fun _ _ _ h => h) (Or.inl ⟨by rfl, fun w' hw' => ?_⟩) hS ?_
      · go_simp
      simp only [Act.put, List.setIfInBounds_toArray, List.set_cons_zero, List.set_cons_succ]
      refine H_put (i := 3) 48 (v := .slice (some ⟨B + 1, 8 + k2, none⟩) (244 - k2) (248 - k2)) rfl rfl (by kernel_rfl) (by kernel_rfl) (by kernel_rfl) (fun _ _ _ h => h) (Or.inl ⟨by rfl, fun w' hw' => ?_⟩) hS ?_
      · go_simp
      simp only [Act.put, List.setIfInBounds_toArray, List.set_cons_zero, List.set_cons_succ]
      refine H_put (i := 4) 49 (v := .int .i64 (E1 : Int)) rfl rfl (by kernel_rfl) (by kernel_rfl) (by kernel_rfl) (fun _ _ _ h => h) (Or.inl ⟨by rfl, fun w' hw' => ?_⟩) hS ?_
      · go_simp
      simp only [Act.put, List.setIfInBounds_toArray, List.set_cons_zero, List.set_cons_succ]
      refine H_put (i := 5) 50 (v := .int .u64 (E1 : Int)) rfl rfl (by kernel_rfl) (by kernel_rfl) (by kernel_rfl) (fun _ _ _ h => h) (Or.inl ⟨by rfl, fun w' hw' => ?_⟩) hS ?_
      · go_simp
      simp only [Act.put, List.setIfInBounds_toArray, List.set_cons_zero, List.set_cons_succ]
      refine H_call (i := 6) 51 65 #[.slice none 0 0, .int .u64 (E1 : Int), .int .i64 2] (R := PFix wq.drew E1 2) (by kernel_rfl) rfl rfl (by rfl) (by go_simp) ?_ ?_
      · exact putFixedK E1 2 2 (by decide) wq.drew
      rintro e w7 ⟨a1, cap1, rfl, H7⟩
      have HA7 := hid (show Adds wq w7 from Touch.trans ((Touch.refl _ wq).drew) H7.out.2)
      have hS2 : (fun (w' : World) => w'.heap[B]? = some (.cells #[.int .i64 (no : Int), .int .u8 (kd.toNat : Int), .slice (some ⟨b, o, none⟩) n cap] 98 (0, 0))) _ := Touch.at' HA7.out BR.out id
      refine ⟨_, _, rfl, hS2, fun w' h => h, ?_⟩
      clear hS; have hS := hS2; clear hS2
      simp only [Act.put, List.setIfInBounds_toArray, List.set_cons_zero, List.set_cons_succ]
      refine H_do (i := 7) (some 52) (by kernel_rfl) rfl rfl (by rfl) (fun K hK => ?_)
      refine wp_copy_sec (.tmp 48) (.tmp 51) rfl (B + 1) (8 + k2) (244 - k2) (248 - k2) rfl a1 (M.fix E1 2) cap1 2 (M.len_fix _ _) rfl _ _ HL4.out (SQ.out.adds HA7.out) H7.out.1.at_ H7.out.1.non (by rw [M.len_fix]; omega) (by rw [M.len_fix]; omega) ?_
      intro w8 hS2 hT2
      have S8 := hid hS2
      have A8 := hid (show Adds w w8 from Adds.one (AQ.out.trans HA7.out) hT2 (by have := HB0.out; omega))
      have B8 := hid (show w8.heap[B]? = some (.cells #[.int .i64 (no : Int), .int .u8 (kd.toNat : Int), .slice (some ⟨b, o, none⟩) n cap] 98 (0, 0)) from Touch.at' hT2 hS (by omega))
      clear hS2 hT2
      have hS2 : (fun (w' : World) => w'.heap[B]? = some (.cells #[.int .i64 (no : Int), .int .u8 (kd.toNat : Int), .slice (some ⟨b, o, none⟩) n cap] 98 (0, 0))) _ := B8.out
      refine hK (.int .i64 ((2 : Nat) : Int)) _ hS2 ?_
      clear hK K hS; have hS := hS2; clear hS2
      simp only [Act.put, List.setIfInBounds_toArray, List.set_cons_zero, List.set_cons_succ]
      refine wpAnyH_done (by kernel_rfl) ?_ _
      clear hs6 hwk hwE
      go_wp2_with fail
      go_roundw
      case rel => exact ⟨k + 1, E1, by omega, by go_num, by first | rfl | go_num, HY.out.2.2.2.1.symm, S8.out, B8.out, A8.out⟩
      case measure => simp [intOf]; omega
    · obtain rfl : n = k := by omega
      have HL5 := hid (show M.splice (M.layK no kd cs n) 6 (M.fix E 2) = M.pbytes ⟨no, kd, cs⟩ by
        have q := M.lay5 no kd HC.out.2.2.1
        rw [HC.out.2.1] at q
        have e : E = cs.flatten.length := by rw [HI.out.1, List.take_of_length_le (by rw [HC.out.2.1]; exact Nat.le_refl _)]
        rw [e]; exact q)
      have hsl6 := sliceA_lh (B + 1) 6 8 (by decide) (by decide) (by decide)
      have hwE : IntKind.u64.wrap (E : Int) = (E : Int) := by show (E : Int) % 18446744073709551616 = _; omega
      have hsa := slice43a (B + 1)
      go_upto_region 11 with fail
      refine H_begin (S := fun (w' : World) => w'.heap[B]? = some (.cells #[.int .i64 (no : Int), .int .u8 (kd.toNat : Int), .slice a n cap] 98 (0, 0))) (by kernel_rfl) ?_
      have hS : (fun (w' : World) => w'.heap[B]? = some (.cells #[.int .i64 (no : Int), .int .u8 (kd.toNat : Int), .slice a n cap] 98 (0, 0))) wr.drew := HI.out.2.2.1
      refine H_put (i := 0) 54 (v := .slice (some ⟨B + 1, 6, none⟩) 2 250) rfl rfl (by kernel_rfl) (by kernel_rfl) (by kernel_rfl) (fun _ _ _ h => h) (Or.inl ⟨by rfl, fun w' hw' => ?_⟩) hS ?_
      · go_simp
      simp only [Act.put, List.setIfInBounds_toArray, List.set_cons_zero, List.set_cons_succ]
      refine H_put (i := 1) 55 (v := .int .i64 (E : Int)) rfl rfl (by kernel_rfl) (by kernel_rfl) (by kernel_rfl) (fun _ _ _ h => h) (Or.inl ⟨by rfl, fun w' hw' => ?_⟩) hS ?_
      · go_simp
      simp only [Act.put, List.setIfInBounds_toArray, List.set_cons_zero, List.set_cons_succ]
      refine H_put (i := 2) 56 (v := .int .u64 (E : Int)) rfl rfl (by kernel_rfl) (by kernel_rfl) (by kernel_rfl) (fun _ _ _ h => h) (Or.inl ⟨by rfl, fun w' hw' => ?_⟩) hS ?_
      · go_simp
      simp only [Act.put, List.setIfInBounds_toArray, List.set_cons_zero, List.set_cons_succ]
      refine H_call (i := 3) 57 65 #[.slice none 0 0, .int .u64 (E : Int), .int .i64 2] (R := PFix wr.drew E 2) (by kernel_rfl) rfl rfl (by rfl) (by go_simp) ?_ ?_
      · exact putFixedK E 2 2 (by decide) wr.drew
      rintro e w7 ⟨a1, cap1, rfl, H7⟩
      have HA7 := hid (show Adds wr w7 from Touch.trans ((Touch.refl _ wr).drew) H7.out.2)
      have hS2 : (fun (w' : World) => w'.heap[B]? = some (.cells #[.int .i64 (no : Int), .int .u8 (kd.toNat : Int), .slice a n cap] 98 (0, 0))) _ := Touch.at' HA7.out HI.out.2.2.1 id
      refine ⟨_, _, rfl, hS2, fun w' h => h, ?_⟩
      clear hS; have hS := hS2; clear hS2
      simp only [Act.put, List.setIfInBounds_toArray, List.set_cons_zero, List.set_cons_succ]
      refine H_do (i := 4) (some 58) (by kernel_rfl) rfl rfl (by rfl) (fun K hK => ?_)
      refine wp_copy_sec (.tmp 54) (.tmp 57) rfl (B + 1) 6 2 250 rfl a1 (M.fix E 2) cap1 2 (M.len_fix _ _) rfl _ _ HL5.out (HI.out.2.1.adds HA7.out) H7.out.1.at_ H7.out.1.non (by rw [M.len_fix]; decide) (by rw [M.len_fix]; decide) ?_
      intro w8 hS2 hT2
      have S8 := hid hS2
      have A8 := hid (show Adds w w8 from Adds.one (HI.out.2.2.2.trans HA7.out) hT2 (by have := HB0.out; omega))
      have B8 := hid (show w8.heap[B]? = some (.cells #[.int .i64 (no : Int), .int .u8 (kd.toNat : Int), .slice a n cap] 98 (0, 0)) from Touch.at' hT2 hS (by omega))
      clear hS2 hT2
      have hS2 : (fun (w' : World) => w'.heap[B]? = some (.cells #[.int .i64 (no : Int), .int .u8 (kd.toNat : Int), .slice a n cap] 98 (0, 0))) _ := B8.out
      refine hK (.int .i64 ((2 : Nat) : Int)) _ hS2 ?_
      clear hK K hS; have hS := hS2; clear hS2
      simp only [Act.put, List.setIfInBounds_toArray, List.set_cons_zero, List.set_cons_succ]
      refine wpAnyH_done (by kernel_rfl) ?_ _
      go_wp2_with fail
      go_ret
      exact ⟨B + 1, rfl, by have := HB0.out; omega, S8.out, A8.out⟩
end Go.Proofs.Ytplppnngmlljnaa

/- Lists of slices, one behind the other: slices.Concat of lists. -/
namespace Go.Proofs.Ytplppnngmlljnaa
open Go.RowKit

set_option maxRecDepth 100000 in
theorem one_PV (l : List Part) : ∀ u ∈ l.map PV, u.oneCell' = true := by
  intro u hu
  obtain ⟨x, _, rfl⟩ := List.mem_map.1 hu
  rfl
/-- Lists that lie in a row. -/
def GParts (w : World) (g : Nat) (L : List Pl) : Prop := ∀ j x, L[j]? = some x → w.cell? ⟨g, j, none⟩ = some (.slice x.a x.l.length x.cap) ∧ GQ w (fun _ => True) x
set_option maxRecDepth 100000 in
theorem GParts.adds {w w' : World} {g : Nat} {L : List Pl} (h : GParts w g L) (hA : Adds w w') : GParts w' g L := by
  intro j x hj
  obtain ⟨h1, h2⟩ := h j x hj
  exact ⟨below_adds hA h1, h2.adds hA⟩
end Go.Proofs.Ytplppnngmlljnaa
