/- Texts put together: WBody, WNobody. -/
import Derived.Test.YtllkplanjfnnmaaDoorQ27
import Derived.Lib.SlBytesConst
/- Body, works. -/
namespace Go.Proofs.YtllkplanjfnnmaaDoor
open Go.RowKit
set_option maxRecDepth 100000 in
theorem body_wrap (z : Int) : wrap64 ((IntKind.u64.wrap z).tmod 700) = (bodyN z : Int) := by
  unfold bodyN
  rw [IntKind.wrap_u64]
  have h0 : 0 ≤ z % 18446744073709551616 := Int.emod_nonneg _ (by decide)
  rw [Int.tmod_eq_emod_of_nonneg h0]
  unfold wrap64
  omega
set_option maxRecDepth 100000 in
set_option maxHeartbeats 1000000 in
theorem body8_any (z : Int) (c : UInt8) (w : World) : Calls Tryd.prog 19 #[.int .i64 z, .int .u8 (c.toNat : Int)] w (PBody8 w (bodyB c (bodyN z))) := by
  obtain ⟨n, hn⟩ : ∃ n, n = bodyN z := ⟨_, rfl⟩
  have hn2 : n < 700 := by rw [hn]; unfold bodyN; omega
  have hmk := fun w => makeN n (by omega) w
  rw [show (n : Int) = wrap64 ((IntKind.u64.wrap z).tmod 700) by rw [body_wrap, hn]] at hmk
  rw [← hn]
  clear hn
  have hc := c.toNat_lt
  go_enter Tryd.func19, Tryd.ntmps19
  go_wp2_with fail
  go_loopw [14] (fun i wr => ∃ k : Nat, k ≤ n ∧ i = .int .i64 (k : Int) ∧ Hid (wr.heap[w.heap.size]? = some (.cells (S (part_body c n k)).toArray 5 (0, 0)) ∧ Adds w wr)) (fun i _ => n - (intOf i).toNat)
  case atStart => exact ⟨0, Nat.zero_le _, rfl, heap_alloc_new w _, (Touch.refl _ w).alloc _⟩
  case round =>
    obtain ⟨k, hk, rfl, HI⟩ := hrel
    by_cases hlt : k < n
    · have f0 : wr.frozen? ⟨w.heap.size, k, none⟩ = false := frozen_of_row wr w.heap.size k _ 5 HI.out.1
      obtain ⟨x, hx⟩ : ∃ x, (part_body c n k)[k]? = some x := ⟨(part_body c n k)[k]'(by unfold part_body; rw [List.length_append, len_body, List.length_replicate]; omega), List.getElem?_eq_getElem _⟩
      have c0 : wr.cell? ⟨w.heap.size, k, none⟩ = some (.int .u8 (x.toNat : Int)) := by rw [cellOf HI.out.1 k, List.getElem?_toArray, S_get, hx]; rfl
      clear hx
      go_wp2_with fail
      go_roundw
      case rel =>
        refine ⟨k + 1, hlt, by go_num, ?_, ?_⟩
        · rw [heap_setCell_same wr w.heap.size k _ 5 _ HI.out.1, ← body_step c n k hlt]
          congr 4
        · exact Touch.setCell HI.out.2 (fun h => absurd h (Nat.lt_irrefl _)) _
      case measure => simp [intOf]; omega
    · obtain rfl : k = n := by omega
      go_wp2_with fail
      go_ret
      refine ⟨by rw [len_body]; rfl, ?_, HI.out.2⟩
      have := HI.out.1
      rw [show part_body c k k = bodyB c k by unfold part_body; simp] at this
      exact this

/-! ### works -/
def abc : List UInt8 := [97, 98, 99]
def L0 : LS := ⟨1, 4, 2, false, [], []⟩
def L1 : LS := ⟨1, 4, 2, false, [], [abc]⟩
def L2 : LS := ⟨1, 4, 2, false, [], [abc, []]⟩
def L3 : LS := ⟨1, 4, 2, false, [W.gbytes [abc, []]], []⟩
theorem ok0 (n : Nat) (h : n ≤ 10000) : LS.Ok ⟨1, n, 2, false, [], []⟩ := ⟨by show 1 ≤ 4096; decide, h, by show 2 ≤ 1000000000; decide, Nat.zero_le _, fun c => absurd rfl c, fun g hg => (by cases hg)⟩
set_option maxRecDepth 100000 in
theorem app1 : appE L0 abc = 0 ∧ appL L0 abc = L1 := by
  have h : appE L0 abc = 0 := by decide +kernel
  exact ⟨h, by rw [appL, if_pos h]; rfl⟩
set_option maxRecDepth 100000 in
theorem app2 : appE L1 [] = 0 ∧ appL L1 [] = L2 := by
  have h : appE L1 [] = 0 := by decide +kernel
  exact ⟨h, by rw [appL, if_pos h]; rfl⟩
set_option maxRecDepth 100000 in
theorem ok1 : L1.Ok := by have := (ok0 4 (by decide)).app abc; rw [show (⟨1, 4, 2, false, [], []⟩ : LS) = L0 from rfl, app1.2] at this; exact this
set_option maxRecDepth 100000 in
theorem ok2 : L2.Ok := by have := ok1.app []; rw [app2.2] at this; exact this
set_option maxRecDepth 100000 in
theorem secs1 : W.secs (W.gbytes [abc, []]).length = 1 := by decide +kernel
set_option maxRecDepth 100000 in
theorem com3 : comE L2 (dSt.new 5) = 0 ∧ comL L2 (dSt.new 5) = L3 ∧ (comD L2 (dSt.new 5)).steps = 2 ∧ (comD L2 (dSt.new 5)).size = 5 := by
  have hr : comR L2 (dSt.new 5) = (0, (wroteN (dSt.new 5) (fW L2.fr L2.ep (W.usedOf L2.G) (W.gbytes L2.R)) 0 1).synced) := by
    unfold comR
    rw [show W.secs (W.gbytes L2.R).length = 1 from secs1]
    exact goW_all (.inl rfl)
  have hc : ¬ L2.cl = true := by decide
  have hR : ¬ L2.R = [] := by decide
  refine ⟨?_, ?_, ?_, ?_⟩
  · rw [comE, if_neg hc, if_neg hR, hr]
  · rw [comL, if_neg hc, if_neg hR, hr, if_pos rfl]; rfl
  · rw [comD, if_neg hc, if_neg hR, hr]; rfl
  · rw [comD, if_neg hc, if_neg hR, hr]; rfl
set_option maxRecDepth 100000 in
theorem ok3 : L3.Ok := by have := ok2.com (dSt.new 5); rw [com3.2.1] at this; exact this
set_option maxRecDepth 100000 in
theorem used3 : W.usedOf L3.G = 1 := by decide +kernel
set_option maxRecDepth 100000 in
/-- One group of two records. -/
theorem groups_one {B : Nat} {w : World} {v : Value} {t : List Pl} {x y : List UInt8} (h : FreshT B w v t) (hb : t.map Pl.bs = [[x, y]]) : ∃ tb tq tc gb go gc xa xc, v = .slice (some ⟨tb, tq, none⟩) 1 tc ∧ w.cell? ⟨tb, tq, none⟩ = some (.slice (some ⟨gb, go, none⟩) 2 gc) ∧ w.cell? ⟨gb, go, none⟩ = some (.slice xa x.length xc) ∧ At w xa x := by
  obtain ⟨a, c, e, _, _, hq⟩ := own_cq h.rows
  have ht : t.length = 1 := by have := congrArg List.length hb; simpa using this
  obtain ⟨g, rfl⟩ := List.length_eq_one_iff.1 ht
  have hb1 : g.l.map (·.bs) = [x, y] := by have : [g.bs] = [[x, y]] := hb; exact (List.cons.inj this).1
  have hl : g.l.length = 2 := by have := congrArg List.length hb1; simpa using this
  have h0 : (g.l.map (·.bs))[0]? = some x := by rw [hb1]; rfl
  rw [List.getElem?_map] at h0
  obtain ⟨u, hu, eu⟩ := Option.map_eq_some_iff.1 h0
  have hd := h.data g (List.mem_singleton.2 rfl)
  obtain ⟨tb, tq, ha, _, hc⟩ := hq 0 (GV g) rfl
  obtain ⟨gb, go, hga, _, hgc⟩ := hd.at_ 0 (PV u) (by rw [List.getElem?_map, hu]; rfl)
  have hx := hd.all u (List.mem_of_getElem? hu)
  subst ha
  refine ⟨tb, tq, c, gb, go, g.cap, u.a, u.cap, e, ?_, ?_, ?_⟩
  · have q : w.cell? ⟨tb, tq + 0, none⟩ = some (.slice g.a g.l.length g.cap) := hc
    rw [hga, hl] at q
    exact q
  · have q : w.cell? ⟨gb, go + 0, none⟩ = some (.slice u.a u.bs.length u.cap) := hgc
    rw [eu] at q
    exact q
  · have q := hx.at_.at
    rw [eu] at q
    exact q
theorem conv_same (w : World) : (convert 22 22 (.slice (some ⟨w.heap.size, 0, none⟩) 3 3)).run Tryd.prog (w.alloc (.cells #[.int .u8 97, .int .u8 98, .int .u8 99] 5)) = .ok (.slice (some ⟨w.heap.size, 0, none⟩) 3 3) (w.alloc (.cells #[.int .u8 97, .int .u8 98, .int .u8 99] 5 (3, 4))) := Lib.run_convert_bytes_const (P := Tryd.prog) w 22 5 #[.int .u8 97, .int .u8 98, .int .u8 99] 3 3 Tryd.underlying22 Tryd.underlying5
set_option maxRecDepth 100000 in
theorem at_abc (w : World) : At (w.alloc (.cells #[.int .u8 97, .int .u8 98, .int .u8 99] 5 (3, 4))) (some ⟨w.heap.size, 0, none⟩) abc := by
  intro j c hj
  refine ⟨_, _, rfl, ?_⟩
  rw [Nat.zero_add, cellOf (heap_alloc_new w _)]
  match j, hj with
  | 0, hj => cases hj; rfl
  | 1, hj => cases hj; rfl
  | 2, hj => cases hj; rfl
set_option maxRecDepth 100000 in
theorem app_first {w0 w : World} {OL OD : Nat → Prop} {l p b : Nat} (h : Wl w0 w OL OD l p L0 (dSt.new 5)) (hA : At w (some ⟨b, 0, none⟩) abc) : Calls Tryd.prog 9 #[Ptr l, .slice (some ⟨b, 0, none⟩) 3 3] w (PWl w0 w OL OD l p L1 (dSt.new 5) (.int .i64 0)) := by
  have q := wl_append h (ok0 4 (by decide)) (some ⟨b, 0, none⟩) abc 3 3 rfl hA
  rw [app1.1, app1.2] at q
  exact q
set_option maxRecDepth 100000 in
theorem app_second {w0 w : World} {OL OD : Nat → Prop} {l p : Nat} (h : Wl w0 w OL OD l p L1 (dSt.new 5)) : Calls Tryd.prog 9 #[Ptr l, .slice none 0 0] w (PWl w0 w OL OD l p L2 (dSt.new 5) (.int .i64 0)) := by
  have q := wl_append h ok1 none [] 0 0 rfl (At.nil _ _)
  rw [app2.1, app2.2] at q
  exact q
set_option maxRecDepth 100000 in
theorem com_first {w0 w : World} {OL OD : Nat → Prop} {l p : Nat} (h : Wl w0 w OL OD l p L2 (dSt.new 5)) (hT : Tab w0) : Calls Tryd.prog 10 #[Ptr l] w (PWl w0 w OL OD l p L3 (comD L2 (dSt.new 5)) (.int .i64 0)) := by
  have q := wl_commit h ok2 (dnew_ok 5 0 (by decide)) (by decide) (by decide) hT
  rw [com3.1, com3.2.1] at q
  exact q
set_option maxRecDepth 100000 in
theorem grp_first {w0 w : World} {OL OD : Nat → Prop} {l p : Nat} {D : dSt} (h : Wl w0 w OL OD l p L3 D) : Calls Tryd.prog 12 #[Ptr l] w (PGroups w [[abc, []]]) := by
  have q := lgroups_any h.log (by decide +kernel) (by decide)
  rw [show L3.G.map W.recs = [[abc, []]] by show [W.recs (W.gbytes [abc, []])] = _; rw [W.recs_put _ (by decide +kernel)]] at q
  exact q
theorem step_first {w0 w : World} {OL OD : Nat → Prop} {l p : Nat} {L : LS} (h : Wl w0 w OL OD l p L (dSt.new 5)) : Calls Tryd.prog 23 #[Ptr p] w (Tells (.int .i64 0) w) := wl_steps h (by decide)
set_option maxRecDepth 100000 in
theorem step_second {w0 w : World} {OL OD : Nat → Prop} {l p : Nat} {L : LS} (h : Wl w0 w OL OD l p L (comD L2 (dSt.new 5))) : Calls Tryd.prog 23 #[Ptr p] w (Tells (.int .i64 2) w) := by
  have q := wl_steps h (by rw [com3.2.2.2]; decide)
  rw [com3.2.2.1] at q
  exact q
set_option maxRecDepth 100000 in
theorem used_first {w0 w : World} {OL OD : Nat → Prop} {l p : Nat} {D : dSt} (h : Wl w0 w OL OD l p L3 D) : Calls Tryd.prog 14 #[Ptr l] w (Tells (.int .i64 1) w) := by
  have q := wl_used h
  rw [used3] at q
  exact q
set_option maxRecDepth 100000 in
theorem room_first {w0 w : World} {OL OD : Nat → Prop} {l p : Nat} {D : dSt} (h : Wl w0 w OL OD l p L3 D) : Calls Tryd.prog 15 #[Ptr l] w (Adding (.int .i64 3) w) := by
  have q := wl_room h ok3
  rw [used3] at q
  exact q
set_option maxRecDepth 100000 in
set_option maxHeartbeats 4000000 in
theorem works8 (w : World) (hT : Tab w) : Calls Tryd.prog 16 #[] w (Adding (.bool true) w) := by
  have HB := hid (show Calls Tryd.prog 17 #[.int .i64 4] w (PBeg w 4) from began_any 4 (by decide) (by decide) w hT)
  have HT := hid hT
  clear hT
  go_enter Tryd.func16, Tryd.ntmps16
  go_wp2_with (first
    | (go_at_call 17; refine HB.out.mono ?_; rintro e w1 ⟨l, p, rfl, H1⟩; obtain ⟨OL1, OD1, h1⟩ := H1.out; have HW1 := hid (show Wl w w1 OL1 OD1 l p L0 (dSt.new 5) from h1)
       have hcs := conv_same w1
       have HM1 := hid (HW1.out.add ((Touch.refl _ w1).alloc (.cells #[.int .u8 97, .int .u8 98, .int .u8 99] 5 (3, 4))))
       have HA1 := hid (show At (w1.alloc (.cells #[.int .u8 97, .int .u8 98, .int .u8 99] 5 (3, 4))) (some ⟨w1.heap.size, 0, none⟩) abc from at_abc w1)
       clear h1 H1)
    | (go_at_call 9; refine (app_second HW2.out).mono ?_; rintro e w3 ⟨rfl, H3⟩; obtain ⟨OL3, OD3, h3, _, _⟩ := H3.out; have HW3 := hid h3; clear h3 H3)
    | (go_at_call 9; refine (app_first HM1.out HA1.out).mono ?_; rintro e w2 ⟨rfl, H2⟩; obtain ⟨OL2, OD2, h2, _, _⟩ := H2.out; have HW2 := hid h2; clear h2 H2)
    | (go_at_call 13; refine (show Calls Tryd.prog 13 #[Ptr l] w3 (Tells (.int .i64 2) w3) from wl_waiting HW3.out).mono ?_; rintro e _ ⟨rfl, hw⟩; rw [hw]; clear hw)
    | (go_at_call 10; refine (com_first HW3.out HT.out).mono ?_; rintro e w4 ⟨rfl, H4⟩; obtain ⟨OL4, OD4, h4, _, _⟩ := H4.out; have HW4 := hid h4; clear h4 H4)
    | (go_at_call 12; refine (grp_first HW4.out).mono ?_; rintro e w5 ⟨v5, t5, rfl, H5⟩; obtain ⟨tb, tq, tc, gb, go, gc, xa, xc, hv5, c1, c2, a3⟩ := groups_one H5.out.1 H5.out.2.1; subst hv5
       have HW5 := hid (HW4.out.add H5.out.2.2)
       have hcv : (convert 22 9 (.slice xa 3 xc)).run Tryd.prog w5 = .ok (.string ⟨#[97, 98, 99]⟩) w5 := conv_at w5 xa abc xc a3
       have c2' : w5.cell? ⟨gb, go, none⟩ = some (.slice xa 3 xc) := c2
       have A3 := hid a3
       clear H5 c2 a3)
    | (go_at_call 23; refine (step_second HW5.out).mono ?_; rintro e _ ⟨rfl, hw⟩; rw [hw]; clear hw)
    | (go_at_call 23; refine (step_first HW3.out).mono ?_; rintro e _ ⟨rfl, hw⟩; rw [hw]; clear hw)
    | (go_at_call 14; refine (used_first HW5.out).mono ?_; rintro e _ ⟨rfl, hw⟩; rw [hw]; clear hw)
    | (go_at_call 15; refine (room_first HW5.out).mono ?_; rintro e w6 ⟨rfl, hA6⟩; have HW6 := hid (HW5.out.add hA6); have c16 := below_adds hA6 c1; have c26 := below_adds hA6 c2'; have hcv6 : (convert 22 9 (.slice xa 3 xc)).run Tryd.prog w6 = .ok (.string ⟨#[97, 98, 99]⟩) w6 := conv_at w6 xa abc xc (A3.out.adds hA6)))
  go_ret
  exact ⟨rfl, HW6.out.adds⟩
end Go.Proofs.YtllkplanjfnnmaaDoor

/- Logs that are none. -/
namespace Go.Proofs.YtllkplanjfnnmaaDoor
open Go.RowKit
/-- No groups. -/
def PNobody8 (w : World) (e : Ending) (w' : World) : Prop := ∃ a c, e = .returned (.slice a 0 c) ∧ Adds w w'
set_option maxRecDepth 100000 in
set_option maxHeartbeats 1000000 in
theorem groups_zero (l : Nat) (w : World) (c5 : w.cell? ⟨l, 5, none⟩ = some (.slice none 0 0)) : Calls Tryd.prog 12 #[Ptr l] w (PNobody8 w) := by
  obtain ⟨i3, hi3, hz0, hz1, hz2⟩ := infoBB
  have HKE := hid (show ∀ w', w.grownBy w' none → w'.cell? ⟨l, 5, none⟩ = some (.slice none 0 0) ∧ Adds w w' from fun w' hg =>
    have hA : Adds w w' := Touch.grown (Touch.refl _ w) hg (fun k hk _ => by cases hk)
    ⟨below_adds hA c5, hA⟩)
  go_enter Tryd.func12, Tryd.ntmps12
  go_wp2_with (first
    | (at_make; refine wpList_make_own _ rfl _ _ 41 rfl 0 33 i3 (.slice none 0 0) 1 Tryd.underlying41 hi3 hz0 hz1 .i64 .i64 _ 0 rfl rfl rfl (by omega) (by unfold maxLen; omega) (Nat.zero_le _) ?_; intro w2 hown2 hg2; obtain ⟨c5', hA2⟩ := HKE.out w2 hg2
       have H2 := hid hA2; clear hown2 hA2))
  go_loopw [3, 19] (fun v i wr => v = .slice (some ⟨w.heap.size, 0, none⟩) 0 0 ∧ i = .int .i64 0 ∧ wr = w2) (fun _ _ _ => 0)
  case atStart => exact ⟨rfl, rfl, rfl⟩
  case round =>
    obtain ⟨rfl, rfl, hw⟩ := hrel
    rw [hw]
    go_wp2_with fail
    go_ret
    exact ⟨_, _, rfl, H2.out⟩
/-- A log that no call made. -/
structure Zero (w : World) (l : Nat) : Prop where
  box : w.heap[l]? = some (.cells #[.pointer none, .int .i64 0, .int .i64 0, .int .i64 0, .bool false, .slice none 0 0, .int .i64 0, .int .i64 0, .slice none 0 0] 35 (0, 0))
theorem Zero.adds {w w' : World} {l : Nat} (h : Zero w l) (hA : Adds w w') : Zero w' l := ⟨hA.at' h.box id⟩
set_option maxRecDepth 100000 in
theorem zeroDisk (w : World) : (Instr.build 27 #[]).run Tryd.prog w = .ok (.agg #[.int .i64 0, .map none, .slice none 0 0, .int .i64 0, .int .i64 0]) w := by kernel_rfl
set_option maxRecDepth 100000 in
theorem zeroLog (w : World) : (Instr.build 35 #[]).run Tryd.prog w = .ok (.agg #[.pointer none, .int .i64 0, .int .i64 0, .int .i64 0, .bool false, .slice none 0 0, .int .i64 0, .int .i64 0, .slice none 0 0]) w := by kernel_rfl
set_option maxRecDepth 100000 in
set_option maxHeartbeats 2000000 in
theorem nobody8 (fr ct ep : Int) (a : Option Addr) (n cap : Nat) (w : World) (hT : Tab w) : Calls Tryd.prog 3 #[.int .i64 fr, .int .i64 ct, .int .i64 ep, .slice a n cap] w (Adding (.bool true) w) := by
  have HW := hid (fun w' (hA : Adds w w') => works8 w' (hT.adds hA))
  have hzd := zeroDisk
  have hzl := zeroLog
  clear hT
  go_enter Tryd.func3, Tryd.ntmps3
  go_wp2_with fail
  obtain ⟨w3, hw3⟩ : ∃ w3 : World, w3 = (w.alloc (.cells #[.int .i64 0, .map none, .slice none 0 0, .int .i64 0, .int .i64 0] 27)).alloc (.cells #[.pointer none, Ptr w.heap.size] 23) := ⟨_, rfl⟩
  rw [← hw3]
  have hA3 : Adds w w3 := by rw [hw3]; exact ((Touch.refl _ w).alloc _).alloc _
  have z0 : w3.cell? ⟨w.heap.size, 0, none⟩ = some (.int .i64 0) := by rw [hw3]; simp [go_sem]
  have s0 : w3.cell? ⟨w.heap.size + 1, 0, none⟩ = some (.pointer none) := by rw [hw3]; simp [go_sem]
  have s1 : w3.cell? ⟨w.heap.size + 1, 1, none⟩ = some (Ptr w.heap.size) := by rw [hw3]; simp [go_sem]
  clear hw3
  have HO0 := hid (open_un (.pointer none) fr ct ep w3 (unmade_nil w3))
  have HO1 := hid (open_un (Ptr w.heap.size) fr ct ep w3 (unmade_zero z0))
  have HA3 := hid hA3
  clear hA3 z0
  go_loopw [19] (fun t wr => ∃ k : Nat, k ≤ 2 ∧ t = .int .i64 k ∧ wr = w3) (fun t _ => 2 - (intOf t).toNat)
  case atStart => exact ⟨0, by omega, rfl, rfl⟩
  case round =>
    obtain ⟨k, hk, rfl, hw⟩ := hrel
    rw [hw]
    clear hw
    obtain rfl | rfl | rfl : k = 0 ∨ k = 1 ∨ k = 2 := by omega
    · go_wp2_with (first | (go_at_call 7; refine HO0.out.mono ?_; rintro e _ ⟨rfl, hw⟩; rw [hw]; clear hw))
      go_roundw
      case rel => exact ⟨1, by omega, rfl, by first | rfl | trivial⟩
      case measure => simp [intOf]
    · go_wp2_with (first | (go_at_call 7; refine HO1.out.mono ?_; rintro e _ ⟨rfl, hw⟩; rw [hw]; clear hw))
      go_roundw
      case rel => exact ⟨2, by omega, rfl, by first | rfl | trivial⟩
      case measure => simp [intOf]
    · go_wp2_with fail
      obtain ⟨w4, hw4⟩ : ∃ w4 : World, w4 = (w3.alloc (.cells #[.pointer none, .int .i64 0, .int .i64 0, .int .i64 0, .bool false, .slice none 0 0, .int .i64 0, .int .i64 0, .slice none 0 0] 35)).alloc (.cells #[.pointer none, Ptr w3.heap.size] 29) := ⟨_, rfl⟩
      rw [← hw4]
      have HA4 : Hid (Adds w w4) := by rw [hw4]; exact (HA3.out.alloc _).alloc _
      have HZ : Hid (Zero w4 w3.heap.size) := ⟨by rw [hw4]; exact heap_alloc2_old w3 _ _⟩
      have q0 : w4.cell? ⟨w3.heap.size + 1, 0, none⟩ = some (.pointer none) := by rw [hw4]; simp [go_sem]
      have q1 : w4.cell? ⟨w3.heap.size + 1, 1, none⟩ = some (Ptr w3.heap.size) := by rw [hw4]; simp [go_sem]
      clear hw4 s0 s1
      go_loopw [42] (fun t wr => ∃ k : Nat, k ≤ 2 ∧ t = .int .i64 k ∧ Hid (Adds w4 wr)) (fun t _ => 2 - (intOf t).toNat)
      case atStart => exact ⟨0, by omega, rfl, Touch.refl _ _⟩
      case round =>
        obtain ⟨k, hk, rfl, HI⟩ := hrel
        have r0 := below_adds HI.out q0
        have r1 := below_adds HI.out q1
        have HZr := hid (HZ.out.adds HI.out)
        clear q0 q1
        obtain rfl | rfl | rfl : k = 0 ∨ k = 1 ∨ k = 2 := by omega
        · go_wp2_with (first
            | (go_at_call 8; refine (begin_nil ep wr).mono ?_; rintro e _ ⟨rfl, hw⟩; rw [hw]; clear hw)
            | (go_at_call 9; refine (lappend_nil a n cap wr).mono ?_; rintro e _ ⟨rfl, hw⟩; rw [hw]; clear hw)
            | (go_at_call 10; refine (commit_nil wr).mono ?_; rintro e _ ⟨rfl, hw⟩; rw [hw]; clear hw)
            | (go_at_call 11; refine (drop_nil wr).mono ?_; rintro e _ ⟨rfl, hw⟩; rw [hw]; clear hw)
            | (go_at_call 12; refine (groups_nil wr).mono ?_; rintro e _ ⟨rfl, hw⟩; rw [hw]; clear hw)
            | (go_at_call 13; refine (waiting_nil wr).mono ?_; rintro e _ ⟨rfl, hw⟩; rw [hw]; clear hw)
            | (go_at_call 14; refine (used_nil wr).mono ?_; rintro e _ ⟨rfl, hw⟩; rw [hw]; clear hw)
            | (go_at_call 15; refine (room_nil wr).mono ?_; rintro e _ ⟨rfl, hw⟩; rw [hw]; clear hw))
          go_roundw
          case rel => exact ⟨_, _, _, _, _, _, _, _, _, _, _, _, _, _, _, _, _, _, _, _, _, _, _, _, _, _, _, _, _, _, _, _, _, _, _, _, _, _, _, _, _, _, _, _, _, _, _, _, ⟨1, by omega, rfl, HI.out⟩, rfl⟩
          case measure => simp [intOf]
        · go_wp2_with (first
            | (go_at_call 8; refine (begin_zero w3.heap.size ep wr (cellOf HZr.out.box 0)).mono ?_; rintro e _ ⟨rfl, hw⟩; rw [hw]; clear hw)
            | (go_at_call 9; refine (lappend_zero w3.heap.size a n cap wr (cellOf HZr.out.box 0)).mono ?_; rintro e _ ⟨rfl, hw⟩; rw [hw]; clear hw)
            | (go_at_call 10; refine (commit_zero w3.heap.size wr (cellOf HZr.out.box 0)).mono ?_; rintro e _ ⟨rfl, hw⟩; rw [hw]; clear hw)
            | (go_at_call 11; refine (drop_none w3.heap.size wr (cellOf HZr.out.box 7)).mono ?_; rintro e _ ⟨rfl, hw⟩; rw [hw]; clear hw)
            | (go_at_call 12; refine (groups_zero w3.heap.size wr (cellOf HZr.out.box 5)).mono ?_; rintro e w5 ⟨ga, gc, rfl, hA5⟩; have HZ5 := hid (HZr.out.adds hA5); have HA5 := hid (HI.out.trans hA5); clear hA5)
            | (go_at_call 13; refine (waiting_any w3.heap.size 0 w5 (cellOf HZ5.out.box 7)).mono ?_; rintro e _ ⟨rfl, hw⟩; rw [hw]; clear hw)
            | (go_at_call 14; refine (used_any w3.heap.size 0 w5 (cellOf HZ5.out.box 6)).mono ?_; rintro e _ ⟨rfl, hw⟩; rw [hw]; clear hw)
            | (go_at_call 15; refine (show Calls Tryd.prog 15 #[Ptr w3.heap.size] w5 (Adding (.int .i64 0) w5) from lroom_any w3.heap.size 0 0 w5 (cellOf HZ5.out.box 2) (cellOf HZ5.out.box 6) (by decide) (by decide) (by decide)).mono ?_; rintro e w6 ⟨rfl, hA6⟩; have HA6 := hid (HA5.out.trans hA6); clear hA6))
          go_roundw
          case rel => exact ⟨_, _, _, _, _, _, _, _, _, _, _, _, _, _, _, _, _, _, _, _, _, _, _, _, _, _, _, _, _, _, _, _, _, _, _, _, _, _, _, _, _, _, _, _, _, _, _, _, ⟨2, by omega, rfl, HA6.out⟩, rfl⟩
          case measure => simp [intOf]
        · go_wp2_with (first | (go_at_call 16; refine (HW.out wr (HA4.out.trans HI.out)).mono ?_; rintro e w9 ⟨rfl, hA9⟩))
          go_ret
          exact ⟨rfl, (HA4.out.trans HI.out).trans hA9⟩
end Go.Proofs.YtllkplanjfnnmaaDoor
