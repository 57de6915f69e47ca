/- Texts put together: WBody, WRef, WFull0, WSame, WQ0, WQ1. -/
import Derived.Test.YtllkplanjfnnmaaGreatDoorQ27
import Derived.Lib.SlBytesConst
import Derived.Test.YtllkplanjfnnmaaGreatDoorQ19
/- Body, works. -/
namespace Go.Proofs.YtllkplanjfnnmaaGreatDoor
open Go.RowKit
set_option maxRecDepth 100000 in
theorem body_wrap (z : Int) : wrap64 ((IntKind.u64.wrap z).tmod 700) = (bodyN z : Int) := by
  unfold bodyN
  rw [IntKind.wrap_u64]
  have h0 : 0 ≤ z % 18446744073709551616 := Int.emod_nonneg _ (by decide)
  rw [Int.tmod_eq_emod_of_nonneg h0]
  unfold wrap64
  omega
set_option maxRecDepth 100000 in
set_option maxHeartbeats 1000000 in
theorem body8_any (z : Int) (c : UInt8) (w : World) : Calls Tryz.prog 22 #[.int .i64 z, .int .u8 (c.toNat : Int)] w (PBody8 w (bodyB c (bodyN z))) := by
  obtain ⟨n, hn⟩ : ∃ n, n = bodyN z := ⟨_, rfl⟩
  have hn2 : n < 700 := by rw [hn]; unfold bodyN; omega
  have hmk := fun w => makeN n (by omega) w
  rw [show (n : Int) = wrap64 ((IntKind.u64.wrap z).tmod 700) by rw [body_wrap, hn]] at hmk
  rw [← hn]
  clear hn
  have hc := c.toNat_lt
  go_enter Tryz.func22, Tryz.ntmps22
  go_wp2_with fail
  go_loopw [14] (fun i wr => ∃ k : Nat, k ≤ n ∧ i = .int .i64 (k : Int) ∧ Hid (wr.heap[w.heap.size]? = some (.cells (S (part_body c n k)).toArray 5 (0, 0)) ∧ Adds w wr)) (fun i _ => n - (intOf i).toNat)
  case atStart => exact ⟨0, Nat.zero_le _, rfl, heap_alloc_new w _, (Touch.refl _ w).alloc _⟩
  case round =>
    obtain ⟨k, hk, rfl, HI⟩ := hrel
    by_cases hlt : k < n
    · have f0 : wr.frozen? ⟨w.heap.size, k, none⟩ = false := frozen_of_row wr w.heap.size k _ 5 HI.out.1
      obtain ⟨x, hx⟩ : ∃ x, (part_body c n k)[k]? = some x := ⟨(part_body c n k)[k]'(by unfold part_body; rw [List.length_append, len_body, List.length_replicate]; omega), List.getElem?_eq_getElem _⟩
      have c0 : wr.cell? ⟨w.heap.size, k, none⟩ = some (.int .u8 (x.toNat : Int)) := by rw [cellOf HI.out.1 k, List.getElem?_toArray, S_get, hx]; rfl
      clear hx
      go_wp2_with fail
      go_roundw
      case rel =>
        refine ⟨k + 1, hlt, by go_num, ?_, ?_⟩
        · rw [heap_setCell_same wr w.heap.size k _ 5 _ HI.out.1, ← body_step c n k hlt]
          congr 4
        · exact Touch.setCell HI.out.2 (fun h => absurd h (Nat.lt_irrefl _)) _
      case measure => simp [intOf]; omega
    · obtain rfl : k = n := by omega
      go_wp2_with fail
      go_ret
      refine ⟨by rw [len_body]; rfl, ?_, HI.out.2⟩
      have := HI.out.1
      rw [show part_body c k k = bodyB c k by unfold part_body; simp] at this
      exact this

/-! ### works -/
def abc : List UInt8 := [97, 98, 99]
def L0 : LS := ⟨1, 4, 2, false, [], []⟩
def L1 : LS := ⟨1, 4, 2, false, [], [abc]⟩
def L2 : LS := ⟨1, 4, 2, false, [], [abc, []]⟩
def L3 : LS := ⟨1, 4, 2, false, [W.gbytes [abc, []]], []⟩
theorem ok0 (n : Nat) (h : n ≤ 10000) : LS.Ok ⟨1, n, 2, false, [], []⟩ := ⟨by show 1 ≤ 4096; decide, h, by show 2 ≤ 1000000000; decide, Nat.zero_le _, fun c => absurd rfl c, fun g hg => (by cases hg)⟩
set_option maxRecDepth 100000 in
theorem app1 : appE L0 abc = 0 ∧ appL L0 abc = L1 := by
  have h : appE L0 abc = 0 := by decide +kernel
  exact ⟨h, by rw [appL, if_pos h]; rfl⟩
set_option maxRecDepth 100000 in
theorem app2 : appE L1 [] = 0 ∧ appL L1 [] = L2 := by
  have h : appE L1 [] = 0 := by decide +kernel
  exact ⟨h, by rw [appL, if_pos h]; rfl⟩
set_option maxRecDepth 100000 in
theorem ok1 : L1.Ok := by have := (ok0 4 (by decide)).app abc; rw [show (⟨1, 4, 2, false, [], []⟩ : LS) = L0 from rfl, app1.2] at this; exact this
set_option maxRecDepth 100000 in
theorem ok2 : L2.Ok := by have := ok1.app []; rw [app2.2] at this; exact this
set_option maxRecDepth 100000 in
theorem secs1 : W.secs (W.gbytes [abc, []]).length = 1 := by decide +kernel
set_option maxRecDepth 100000 in
theorem com3 : comE L2 (dSt.new 5) = 0 ∧ comL L2 (dSt.new 5) = L3 ∧ (comD L2 (dSt.new 5)).steps = 2 ∧ (comD L2 (dSt.new 5)).size = 5 := by
  have hr : comR L2 (dSt.new 5) = (0, (wroteN (dSt.new 5) (fW L2.fr L2.ep (W.usedOf L2.G) (W.gbytes L2.R)) 0 1).synced) := by
    unfold comR
    rw [show W.secs (W.gbytes L2.R).length = 1 from secs1]
    exact goW_all (.inl rfl)
  have hc : ¬ L2.cl = true := by decide
  have hR : ¬ L2.R = [] := by decide
  refine ⟨?_, ?_, ?_, ?_⟩
  · rw [comE, if_neg hc, if_neg hR, hr]
  · rw [comL, if_neg hc, if_neg hR, hr, if_pos rfl]; rfl
  · rw [comD, if_neg hc, if_neg hR, hr]; rfl
  · rw [comD, if_neg hc, if_neg hR, hr]; rfl
set_option maxRecDepth 100000 in
theorem ok3 : L3.Ok := by have := ok2.com (dSt.new 5); rw [com3.2.1] at this; exact this
set_option maxRecDepth 100000 in
theorem used3 : W.usedOf L3.G = 1 := by decide +kernel
set_option maxRecDepth 100000 in
/-- One group of two records. -/
theorem groups_one {B : Nat} {w : World} {v : Value} {t : List Pl} {x y : List UInt8} (h : FreshT B w v t) (hb : t.map Pl.bs = [[x, y]]) : ∃ tb tq tc gb go gc xa xc, v = .slice (some ⟨tb, tq, none⟩) 1 tc ∧ w.cell? ⟨tb, tq, none⟩ = some (.slice (some ⟨gb, go, none⟩) 2 gc) ∧ w.cell? ⟨gb, go, none⟩ = some (.slice xa x.length xc) ∧ At w xa x := by
  obtain ⟨a, c, e, _, _, hq⟩ := own_cq h.rows
  have ht : t.length = 1 := by have := congrArg List.length hb; simpa using this
  obtain ⟨g, rfl⟩ := List.length_eq_one_iff.1 ht
  have hb1 : g.l.map (·.bs) = [x, y] := by have : [g.bs] = [[x, y]] := hb; exact (List.cons.inj this).1
  have hl : g.l.length = 2 := by have := congrArg List.length hb1; simpa using this
  have h0 : (g.l.map (·.bs))[0]? = some x := by rw [hb1]; rfl
  rw [List.getElem?_map] at h0
  obtain ⟨u, hu, eu⟩ := Option.map_eq_some_iff.1 h0
  have hd := h.data g (List.mem_singleton.2 rfl)
  obtain ⟨tb, tq, ha, _, hc⟩ := hq 0 (GV g) rfl
  obtain ⟨gb, go, hga, _, hgc⟩ := hd.at_ 0 (PV u) (by rw [List.getElem?_map, hu]; rfl)
  have hx := hd.all u (List.mem_of_getElem? hu)
  subst ha
  refine ⟨tb, tq, c, gb, go, g.cap, u.a, u.cap, e, ?_, ?_, ?_⟩
  · have q : w.cell? ⟨tb, tq + 0, none⟩ = some (.slice g.a g.l.length g.cap) := hc
    rw [hga, hl] at q
    exact q
  · have q : w.cell? ⟨gb, go + 0, none⟩ = some (.slice u.a u.bs.length u.cap) := hgc
    rw [eu] at q
    exact q
  · have q := hx.at_.at
    rw [eu] at q
    exact q
theorem conv_same (w : World) : (convert 56 56 (.slice (some ⟨w.heap.size, 0, none⟩) 3 3)).run Tryz.prog (w.alloc (.cells #[.int .u8 97, .int .u8 98, .int .u8 99] 5)) = .ok (.slice (some ⟨w.heap.size, 0, none⟩) 3 3) (w.alloc (.cells #[.int .u8 97, .int .u8 98, .int .u8 99] 5 (3, 4))) := Lib.run_convert_bytes_const (P := Tryz.prog) w 56 5 #[.int .u8 97, .int .u8 98, .int .u8 99] 3 3 Tryz.underlying56 Tryz.underlying5
set_option maxRecDepth 100000 in
theorem at_abc (w : World) : At (w.alloc (.cells #[.int .u8 97, .int .u8 98, .int .u8 99] 5 (3, 4))) (some ⟨w.heap.size, 0, none⟩) abc := by
  intro j c hj
  refine ⟨_, _, rfl, ?_⟩
  rw [Nat.zero_add, cellOf (heap_alloc_new w _)]
  match j, hj with
  | 0, hj => cases hj; rfl
  | 1, hj => cases hj; rfl
  | 2, hj => cases hj; rfl
set_option maxRecDepth 100000 in
theorem app_first {w0 w : World} {OL OD : Nat → Prop} {l p b : Nat} (h : Wl w0 w OL OD l p L0 (dSt.new 5)) (hA : At w (some ⟨b, 0, none⟩) abc) : Calls Tryz.prog 13 #[Ptr l, .slice (some ⟨b, 0, none⟩) 3 3] w (PWl w0 w OL OD l p L1 (dSt.new 5) (.int .i64 0)) := by
  have q := wl_append h (ok0 4 (by decide)) (some ⟨b, 0, none⟩) abc 3 3 rfl hA
  rw [app1.1, app1.2] at q
  exact q
set_option maxRecDepth 100000 in
theorem app_second {w0 w : World} {OL OD : Nat → Prop} {l p : Nat} (h : Wl w0 w OL OD l p L1 (dSt.new 5)) : Calls Tryz.prog 13 #[Ptr l, .slice none 0 0] w (PWl w0 w OL OD l p L2 (dSt.new 5) (.int .i64 0)) := by
  have q := wl_append h ok1 none [] 0 0 rfl (At.nil _ _)
  rw [app2.1, app2.2] at q
  exact q
set_option maxRecDepth 100000 in
theorem com_first {w0 w : World} {OL OD : Nat → Prop} {l p : Nat} (h : Wl w0 w OL OD l p L2 (dSt.new 5)) (hT : Tab w0) : Calls Tryz.prog 16 #[Ptr l] w (PWl w0 w OL OD l p L3 (comD L2 (dSt.new 5)) (.int .i64 0)) := by
  have q := wl_commit h ok2 (dnew_ok 5 0 (by decide)) (by decide) (by decide) hT
  rw [com3.1, com3.2.1] at q
  exact q
set_option maxRecDepth 100000 in
theorem grp_first {w0 w : World} {OL OD : Nat → Prop} {l p : Nat} {D : dSt} (h : Wl w0 w OL OD l p L3 D) : Calls Tryz.prog 17 #[Ptr l] w (PGroups w [[abc, []]]) := by
  have q := lgroups_any h.log (by decide +kernel) (by decide)
  rw [show L3.G.map W.recs = [[abc, []]] by show [W.recs (W.gbytes [abc, []])] = _; rw [W.recs_put _ (by decide +kernel)]] at q
  exact q
theorem step_first {w0 w : World} {OL OD : Nat → Prop} {l p : Nat} {L : LS} (h : Wl w0 w OL OD l p L (dSt.new 5)) : Calls Tryz.prog 15 #[Ptr p] w (Tells (.int .i64 0) w) := wl_steps h (by decide)
set_option maxRecDepth 100000 in
theorem step_second {w0 w : World} {OL OD : Nat → Prop} {l p : Nat} {L : LS} (h : Wl w0 w OL OD l p L (comD L2 (dSt.new 5))) : Calls Tryz.prog 15 #[Ptr p] w (Tells (.int .i64 2) w) := by
  have q := wl_steps h (by rw [com3.2.2.2]; decide)
  rw [com3.2.2.1] at q
  exact q
set_option maxRecDepth 100000 in
theorem used_first {w0 w : World} {OL OD : Nat → Prop} {l p : Nat} {D : dSt} (h : Wl w0 w OL OD l p L3 D) : Calls Tryz.prog 18 #[Ptr l] w (Tells (.int .i64 1) w) := by
  have q := wl_used h
  rw [used3] at q
  exact q
set_option maxRecDepth 100000 in
theorem room_first {w0 w : World} {OL OD : Nat → Prop} {l p : Nat} {D : dSt} (h : Wl w0 w OL OD l p L3 D) : Calls Tryz.prog 19 #[Ptr l] w (Adding (.int .i64 3) w) := by
  have q := wl_room h ok3
  rw [used3] at q
  exact q
set_option maxRecDepth 100000 in
set_option maxHeartbeats 4000000 in
theorem works8 (w : World) (hT : Tab w) : Calls Tryz.prog 6 #[] w (Adding (.bool true) w) := by
  have HB := hid (show Calls Tryz.prog 12 #[.int .i64 4] w (PBeg w 4) from began_any 4 (by decide) (by decide) w hT)
  have HT := hid hT
  clear hT
  go_enter Tryz.func6, Tryz.ntmps6
  go_wp2_with (first
    | (go_at_call 12; refine HB.out.mono ?_; rintro e w1 ⟨l, p, rfl, H1⟩; obtain ⟨OL1, OD1, h1⟩ := H1.out; have HW1 := hid (show Wl w w1 OL1 OD1 l p L0 (dSt.new 5) from h1)
       have hcs := conv_same w1
       have HM1 := hid (HW1.out.add ((Touch.refl _ w1).alloc (.cells #[.int .u8 97, .int .u8 98, .int .u8 99] 5 (3, 4))))
       have HA1 := hid (show At (w1.alloc (.cells #[.int .u8 97, .int .u8 98, .int .u8 99] 5 (3, 4))) (some ⟨w1.heap.size, 0, none⟩) abc from at_abc w1)
       clear h1 H1)
    | (go_at_call 13; refine (app_second HW2.out).mono ?_; rintro e w3 ⟨rfl, H3⟩; obtain ⟨OL3, OD3, h3, _, _⟩ := H3.out; have HW3 := hid h3; clear h3 H3)
    | (go_at_call 13; refine (app_first HM1.out HA1.out).mono ?_; rintro e w2 ⟨rfl, H2⟩; obtain ⟨OL2, OD2, h2, _, _⟩ := H2.out; have HW2 := hid h2; clear h2 H2)
    | (go_at_call 14; refine (show Calls Tryz.prog 14 #[Ptr l] w3 (Tells (.int .i64 2) w3) from wl_waiting HW3.out).mono ?_; rintro e _ ⟨rfl, hw⟩; rw [hw]; clear hw)
    | (go_at_call 16; refine (com_first HW3.out HT.out).mono ?_; rintro e w4 ⟨rfl, H4⟩; obtain ⟨OL4, OD4, h4, _, _⟩ := H4.out; have HW4 := hid h4; clear h4 H4)
    | (go_at_call 17; refine (grp_first HW4.out).mono ?_; rintro e w5 ⟨v5, t5, rfl, H5⟩; obtain ⟨tb, tq, tc, gb, go, gc, xa, xc, hv5, c1, c2, a3⟩ := groups_one H5.out.1 H5.out.2.1; subst hv5
       have HW5 := hid (HW4.out.add H5.out.2.2)
       have hcv : (convert 56 9 (.slice xa 3 xc)).run Tryz.prog w5 = .ok (.string ⟨#[97, 98, 99]⟩) w5 := conv_at w5 xa abc xc a3
       have c2' : w5.cell? ⟨gb, go, none⟩ = some (.slice xa 3 xc) := c2
       have A3 := hid a3
       clear H5 c2 a3)
    | (go_at_call 15; refine (step_second HW5.out).mono ?_; rintro e _ ⟨rfl, hw⟩; rw [hw]; clear hw)
    | (go_at_call 15; refine (step_first HW3.out).mono ?_; rintro e _ ⟨rfl, hw⟩; rw [hw]; clear hw)
    | (go_at_call 18; refine (used_first HW5.out).mono ?_; rintro e _ ⟨rfl, hw⟩; rw [hw]; clear hw)
    | (go_at_call 19; refine (room_first HW5.out).mono ?_; rintro e w6 ⟨rfl, hA6⟩; have HW6 := hid (HW5.out.add hA6); have c16 := below_adds hA6 c1; have c26 := below_adds hA6 c2'; have hcv6 : (convert 56 9 (.slice xa 3 xc)).run Tryz.prog w6 = .ok (.string ⟨#[97, 98, 99]⟩) w6 := conv_at w6 xa abc xc (A3.out.adds hA6)))
  go_ret
  exact ⟨rfl, HW6.out.adds⟩
end Go.Proofs.YtllkplanjfnnmaaGreatDoor

/- The reference's bytes of a group, and how many sectors they have. -/
namespace Go.Proofs.YtllkplanjfnnmaaGreatDoor
open Go.RowKit

set_option maxRecDepth 100000 in
theorem append_bm {w : World} {ops : Array Oper} {rest : List Oper} {o : Oper} {act : Act} {Q : Exit → Act → World → Prop} {Q' : Nat → Prop} (hgd : o.guard = none) (s x : Operand)
    (ho : o.op = .call { callee := .builtin .append, args := #[s, x], argTypes := #[61, 61] }) (v : Value) (n : Nat) (xs : List Value) (hs : act.eval s = v) (hown : w.ownsRow 0 56 1 v n xs)
    (a : Option Addr) (m cap : Nat) (news : List Value) (hm : news.length = m) (hx : act.eval x = .slice a m cap) (hcap : a = none → cap = 0) (hA : CQ w Q' a news) (h1 : ∀ u ∈ news, u.oneCell' = true) (hlen : n + m ≤ 10000000)
    (h : ∀ v' w', Grew w w' 56 v v' (n + m) (xs ++ news) → wpList Tryz.prog ops Q rest (act.put o.dst v') w') : wpList Tryz.prog ops Q (o :: rest) act w := by
  obtain ⟨i0, hi, hz0, hz1, hz2⟩ := infoB
  cases a with
  | none =>
    obtain rfl := hcap rfl
    obtain rfl : news = [] := by
      cases news with
      | nil => rfl
      | cons u l => obtain ⟨b, o', e, _⟩ := hA 0 u rfl; cases e
    obtain rfl : m = 0 := by rw [← hm]; rfl
    exact wpList_append_own_none hgd s x 61 ho 0 56 i0 1 Tryz.underlying61 hi v n xs hs hown hx (h v w ⟨by simpa using hown, ⟨rfl, rfl, rfl, Nat.le_refl _, fun _ _ _ => rfl⟩, .inl rfl⟩)
  | some ad =>
    refine wpList_append_own_at _ hgd s x 61 ho 0 56 i0 (.slice none 0 0) 1 24 Tryz.underlying61 hi hz0 hz1 hz2 rfl (by decide) v n xs hs hown ad m cap news hx (by omega) ?_ h1 (by unfold maxLen; omega) (by omega) (Nat.zero_le _) (fun v' w' g1 g2 _ g4 => h v' w' ⟨g1, g2, g4⟩)
    intro j y hj
    obtain ⟨b, o', e, _, hc⟩ := hA j y hj
    obtain rfl : ad = ⟨b, o', none⟩ := by simpa using e
    rw [Addr.add_mid]; exact hc
set_option maxRecDepth 100000 in
theorem one_PV (l : List Part) : ∀ u ∈ l.map PV, u.oneCell' = true := by
  intro u hu
  obtain ⟨x, _, rfl⟩ := List.mem_map.1 hu
  rfl
set_option maxRecDepth 100000 in
theorem texts_take {ls : List (List UInt8)} {k : Nat} {x : List UInt8} (h : ls[k]? = some x) : W.texts (ls.take (k + 1)) = W.texts (ls.take k) ++ W.text x := by
  rw [List.take_add_one, h, Option.toList_some, W.texts_app, W.texts_one]
set_option maxRecDepth 100000 in
theorem texts_mono (ls : List (List UInt8)) (k : Nat) : (W.texts (ls.take k)).length ≤ (W.texts ls).length := by
  have : W.texts ls = W.texts (ls.take k) ++ W.texts (ls.drop k) := by rw [← W.texts_app, List.take_append_drop]
  rw [this, List.length_append]; omega
set_option maxRecDepth 100000 in
set_option maxHeartbeats 2000000 in
theorem bytes8_any {Q : Nat → Prop} (g : Pl) (n : Nat) (hn : g.l.length = n) (w : World) (hG : GQ w Q g) (hl : (W.texts g.bs).length ≤ 900000) : Calls Tryz.prog 51 #[.slice g.a n g.cap] w (POwn w (W.full (W.gbytes g.bs))) := by
  have hnl : n ≤ 900000 := by have h1 := W.texts_len g.bs; have h2 : g.bs.length = n := by rw [Pl.bs, List.length_map, hn]
                              omega
  have HU := hid (ruintp_any n (by omega) w)
  have HD := hid (show ∀ k, k < n → ∃ x : Part, g.bs[k]? = some x.bs ∧ x.bs.length ≤ 900000 ∧ PQ w Q x ∧ ∃ b o, g.a = some ⟨b, o, none⟩ ∧ w.cell? ⟨b, o + k, none⟩ = some (.slice x.a x.bs.length x.cap) from fun k hk => by
    have hx : g.l[k]? = some (g.l[k]'(by omega)) := List.getElem?_eq_getElem (by omega)
    obtain ⟨b, o, e, _, hc⟩ := hG.at_ k (PV (g.l[k]'(by omega))) (by rw [List.getElem?_map, hx]; rfl)
    have hm : (g.l[k]'(by omega)) ∈ g.l := List.getElem_mem _
    refine ⟨_, by rw [Pl.bs, List.getElem?_map, hx]; rfl, ?_, hG.all _ hm, b, o, e, hc⟩
    have : (g.l[k]'(by omega)).bs ∈ g.bs := List.mem_map_of_mem hm
    have := W.texts_mem this
    omega)
  obtain ⟨el, hel⟩ : ∃ el, el = (M.enc n).length := ⟨_, rfl⟩
  have hel2 : el ≤ 10 := by rw [hel]; exact M.len_enc10 (by omega)
  have HE := hid hel
  have HGB := hid (show W.gbytes g.bs = M.enc n ++ W.texts g.bs by rw [W.gbytes, Pl.bs, List.length_map, hn])
  have HL := hid hl
  have HN := hid (show g.bs.length = n by rw [Pl.bs, List.length_map, hn])
  have HT := hid (fun (w' : World) (ts : List UInt8) (ht : ts.length ≤ 900000) => rtextp_any ts (by omega) w')
  have HF := hid (fun (w' : World) (m : Nat) (hm : m ≤ 1000000) => show Calls Tryz.prog 82 #[.int .u64 (m : Int), .int .i64 4] w' (POwn w' (M.fix m 4)) from rfixedp_any m (by omega) 4 w')
  clear hG hl hel
  generalize g.a = ga at *
  go_enter Tryz.func51, Tryz.ntmps51
  go_wp2_with (first
    | (go_at_call 80; refine HU.out.mono ?_; rintro e w1 ⟨v1, rfl, o1, A1⟩; have H1 := hid (And.intro o1 A1); clear o1 A1))
  go_loopw [3, 4] (fun v i wr => ∃ k : Nat, k ≤ n ∧ i = .int .i64 (k : Int) ∧ Hid (wr.ownsRow 0 5 1 v (M.enc n ++ W.texts (g.bs.take k)).length (S (M.enc n ++ W.texts (g.bs.take k))) ∧ (∀ j, v.ownBlock = some j → w.heap.size ≤ j) ∧ Adds w wr)) (fun _ i _ => n - (intOf i).toNat)
  case atStart => exact ⟨0, Nat.zero_le _, rfl, by simpa [W.texts] using row_base (C := 0) H1.out.1 (fun _ _ => Nat.zero_le _), fun j hj => (row_low H1.out.1 hj).1, H1.out.2⟩
  case round =>
    obtain ⟨k, hk, rfl, HI⟩ := hrel
    by_cases hlt : k < n
    · obtain ⟨x, hx, hxl, hxq, b, o, rfl, hxc⟩ := HD.out k hlt
      have hc : wr.cell? ⟨b, o + k, none⟩ = some (.slice x.a x.bs.length x.cap) := below_adds HI.out.2.2 hxc
      have hcv := conv_at wr x.a x.bs x.cap (hxq.at_.at.adds HI.out.2.2)
      have HX := hid (HT.out wr x.bs hxl)
      have HXX := hid hx
      have hk1 := texts_mono g.bs k
      obtain ⟨m, hm⟩ : ∃ m, m = (M.enc n ++ W.texts (g.bs.take k)).length := ⟨_, rfl⟩
      have hm2 : m ≤ 900010 := by rw [hm, List.length_append, ← HE.out]; have := HL.out; omega
      have HM := hid (show wr.ownsRow 0 5 1 u3 m (S (M.enc n ++ W.texts (g.bs.take k))) by rw [hm]; exact HI.out.1)
      have HMM := hid hm
      clear hx hxq hxc HD hk1 hm
      go_wp2_with (first
        | (go_at_call 81; refine HX.out.mono ?_; rintro e w2 ⟨v2, rfl, o2, A2⟩; obtain ⟨ea, ec, hv2, q1, q2, q3⟩ := own_cq o2
           obtain ⟨eb, eo, hea⟩ := q3.at.ad (W.text_pos x.bs)
           subst hea
           obtain ⟨tl, htl⟩ : ∃ tl, tl = (M.enc x.bs.length ++ x.bs).length := ⟨_, rfl⟩
           have htl2 : tl ≤ 900010 := by rw [htl, List.length_append]; have := M.len_enc10 (n := x.bs.length) (by omega); omega
           rw [← htl] at hv2
           subst hv2
           have H2 := hid (And.intro q3.at (And.intro A2 (And.intro htl (row_touch HM.out A2 (fun _ _ => id)))))
           clear o2 A2 q1 q2 q3 htl)
        | (at_builtin; refine append_t rfl _ _ rfl u3 m (S (M.enc n ++ W.texts (g.bs.take k))) rfl H2.out.2.2.2 ⟨eb, eo, none⟩ (M.enc x.bs.length ++ x.bs) tl ec H2.out.2.2.1.symm rfl H2.out.1 (by omega) ?_; intro v3 w3 G3; have HG := hid G3; clear G3))
      go_roundw
      case rel =>
        have hG := HG.out
        have e1 : M.enc n ++ W.texts (g.bs.take (k + 1)) = (M.enc n ++ W.texts (g.bs.take k)) ++ (M.enc x.bs.length ++ x.bs) := by rw [texts_take HXX.out, List.append_assoc]; rfl
        have hs2 := H2.out.2.1.size
        have hs0 := HI.out.2.2.size
        refine ⟨k + 1, by omega, by go_num, ?_, hG.lt (by omega) HI.out.2.1, (HI.out.2.2.trans H2.out.2.1).then hG.touch (fun j hj c => by have := HI.out.2.1 j c; omega)⟩
        rw [e1, List.length_append, S_append, ← HMM.out, ← H2.out.2.2.1]
        exact hG.1
      case measure => simp [intOf]; omega
    · obtain rfl : k = n := by omega
      have e0 : M.enc k ++ W.texts (g.bs.take k) = W.gbytes g.bs := by rw [HGB.out, List.take_of_length_le (by rw [HN.out]; exact Nat.le_refl _)]
      obtain ⟨m, hm⟩ : ∃ m, m = (W.gbytes g.bs).length := ⟨_, rfl⟩
      have hm2 : m ≤ 900010 := by rw [hm, HGB.out, List.length_append, ← HE.out]; have := HL.out; omega
      have HM := hid (show wr.ownsRow 0 5 1 u3 m (S (W.gbytes g.bs)) by have q := HI.out.1; rw [e0, ← hm] at q; exact q)
      obtain ⟨ba, bc, hu3, hbc, hba, hbq⟩ := own_cq HM.out
      have hpos : 0 < (W.gbytes g.bs).length := by rw [HGB.out, List.length_append]; have := W.enc_pos k; omega
      obtain ⟨bb, bo, hbb⟩ := hbq.at.ad hpos
      subst hbb
      subst hu3
      have HB := hid hbq.at
      have HX := hid (HF.out wr m (by omega))
      have HMM := hid hm
      clear e0 hbq hba hm hpos
      go_wp2_with (first
        | (go_at_call 82; refine HX.out.mono ?_; rintro e w2 ⟨v2, rfl, o2, A2⟩; rw [M.len_fix] at o2; have H2 := hid (And.intro o2 A2); clear o2 A2)
        | (at_builtin; refine append_t rfl _ _ rfl v2 4 (S (M.fix m 4)) rfl (row_base H2.out.1 (fun _ _ => Nat.zero_le _)) ⟨bb, bo, none⟩ (W.gbytes g.bs) m bc HMM.out.symm rfl (HB.out.adds H2.out.2) (by omega) ?_; intro v3 w3 G3; have HG := hid G3; clear G3))
      go_ret
      have hG := HG.out
      have hs0 := HI.out.2.2.size
      have hs2 := H2.out.2.size
      refine ⟨_, rfl, ?_, (HI.out.2.2.trans H2.out.2).then hG.touch (fun j hj c => by have := (row_low H2.out.1 c).1; omega)⟩
      have e2 : (W.full (W.gbytes g.bs)).length = 4 + m := by rw [W.len_full, HMM.out]
      have e3 : S (W.full (W.gbytes g.bs)) = S (M.fix m 4) ++ S (W.gbytes g.bs) := by rw [W.full, S_append, HMM.out]
      rw [e2, e3]
      exact row_base hG.1 (hG.lt (by omega) (fun j hj => by have := (row_low H2.out.1 hj).1; omega))
set_option maxRecDepth 100000 in
theorem sectors8_any {Q : Nat → Prop} (g : Pl) (n : Nat) (hn : g.l.length = n) (w : World) (hG : GQ w Q g) (hl : (W.texts g.bs).length ≤ 900000) : Calls Tryz.prog 50 #[.slice g.a n g.cap] w (Adding (.int .i64 (W.secs (W.gbytes g.bs).length : Int)) w) := by
  have H := hid (bytes8_any g n hn w hG hl)
  obtain ⟨m, hm⟩ : ∃ m, m = (W.gbytes g.bs).length := ⟨_, rfl⟩
  have hm2 : m ≤ 1000000 := by
    rw [hm, W.gbytes, List.length_append]
    have := M.len_enc10 (n := g.bs.length) (by have := W.texts_len g.bs; omega)
    omega
  have HS := hid (show (W.secs m : Int) = (4 + (m : Int) + 232) / 233 by unfold W.secs; omega)
  have HM := hid hm
  rw [← hm]
  clear hm hG hl
  go_enter Tryz.func50, Tryz.ntmps50
  go_wp2_with (first | (go_at_call 51; refine H.out.mono ?_; rintro e w1 ⟨v1, rfl, o1, A1⟩; rw [W.len_full, ← HM.out] at o1; obtain ⟨va, vc, hv, _, _, _⟩ := own_cq o1; subst hv; have H1 := hid A1; clear A1 o1))
  go_ret
  refine ⟨?_, H1.out⟩
  rw [HS.out]
  go_num
end Go.Proofs.YtllkplanjfnnmaaGreatDoor

/- A group is taken just as long as its pieces have sectors. -/
namespace Go.Proofs.YtllkplanjfnnmaaGreatDoor
open Go.RowKit

/-- Where numbers lie. -/
def NumsAt (w : World) (a : Option Addr) (n : Nat) : Prop := ∀ j, j < n → ∃ b o z, a = some ⟨b, o, none⟩ ∧ w.cell? ⟨b, o + j, none⟩ = some (.int .i64 z)
/-- A law's list of records: of no log, and new. -/
def Mine (w0 w : World) (OL OD : Nat → Prop) (g : Pl) : Prop := GQ w (fun k => w0.heap.size ≤ k ∧ ¬ (OL k ∨ OD k)) g
theorem Mine.next {w0 w w' : World} {OL OD OL' OD' : Nat → Prop} {g : Pl} (h : Mine w0 w OL OD g) (hT : Touch (fun k => OL k ∨ OD k) w w') (hn : ∀ k, OL' k ∨ OD' k → (OL k ∨ OD k) ∨ w.heap.size ≤ k) : Mine w0 w' OL' OD' g :=
  (h.mono (Q' := fun k => (w0.heap.size ≤ k ∧ ¬ (OL k ∨ OD k)) ∧ ¬ (OL' k ∨ OD' k)) (fun k hk q => ⟨q, fun c => by rcases hn k c with c | c; exact q.2 c; omega⟩)).touch hT (fun k q => q.1.2) |>.mono (fun k _ q => ⟨q.1.1, q.2⟩)
theorem Mine.adds {w0 w w' : World} {OL OD : Nat → Prop} {g : Pl} (h : Mine w0 w OL OD g) (hA : Adds w w') : Mine w0 w' OL OD g := GQ.adds h hA
/-- New memory is of no log. -/
theorem Fresh.mine {w0 w w' : World} {OL OD : Nat → Prop} {l p : Nat} {L : LS} {D : dSt} {a : Option Addr} {c : Nat} {hs : List Part} (hW : Wl w0 w OL OD l p L D) (h : GQ w' (fun k => w.heap.size ≤ k) ⟨a, c, hs⟩) : Mine w0 w' OL OD ⟨a, c, hs⟩ :=
  GQ.mono h (fun k _ q => ⟨Nat.le_trans hW.adds.size q, fun c => by have := hW.lt k c; omega⟩)
set_option maxRecDepth 100000 in
theorem part_mine {w0 w w' : World} {OL OD : Nat → Prop} {l p : Nat} {L : LS} {D : dSt} {bs : List UInt8} (hW : Wl w0 w OL OD l p L D) (h : w'.heap[w.heap.size]? = some (.cells (S bs).toArray 5 (0, 0)) ∧ Adds w w') : PQ w' (fun k => w0.heap.size ≤ k ∧ ¬ (OL k ∨ OD k)) ⟨some ⟨w.heap.size, 0, none⟩, bs, bs.length⟩ := by
  refine ⟨fun j u hj => ⟨w.heap.size, 0, rfl, ⟨hW.adds.size, fun c => by have := hW.lt _ c; omega⟩, ?_⟩, fun e => by cases e⟩
  rw [cellOf h.1, Nat.zero_add]
  simpa using hj
set_option maxRecDepth 100000 in
theorem len_bodyN (z : Int) (c : UInt8) : (bodyB c (bodyN z)).length < 700 := by rw [len_body]; unfold bodyN; omega
set_option maxRecDepth 100000 in
/-- What a list of records has been grown by one. -/
theorem grown_one {w0 w w1 w2 : World} {OL OD : Nat → Prop} {g : Pl} {x : Part} {v : Value} (hg : Mine w0 w OL OD g) (hx : PQ w (fun k => w0.heap.size ≤ k ∧ ¬ (OL k ∨ OD k)) x) (hA : Adds w w1) (hv : w1.ownsRow 0 56 1 v (g.l.length + 1) (g.l.map PV ++ [PV x])) (hn : ∀ k, v.ownBlock = some k → w0.heap.size ≤ k ∧ ¬ (OL k ∨ OD k)) (h2 : w2 = w1) : ∃ a c, v = .slice a (g.l.length + 1) c ∧ Mine w0 w2 OL OD ⟨a, c, g.l ++ [x]⟩ := by
  subst h2
  obtain ⟨a, c, e, _, hac, hq⟩ := own_cq hv
  refine ⟨a, c, e, ⟨by rw [List.map_append]; exact hq.mono (fun k _ q => hn k q), hac, fun y hy => ?_⟩⟩
  rcases List.mem_append.1 hy with hy | hy
  · exact (hg.all y hy).adds hA
  · obtain rfl := List.mem_singleton.1 hy
    exact hx.adds hA
end Go.Proofs.YtllkplanjfnnmaaGreatDoor

/- The reference's Same: the same groups? -/
namespace Go.Proofs.YtllkplanjfnnmaaGreatDoor
open Go.RowKit
set_option maxRecDepth 100000 in
theorem take_eq_next {β : Type} {x y : List β} {k : Nat} {a : β} (h : x.take k = y.take k) (hx : x[k]? = some a) (hy : y[k]? = some a) : x.take (k + 1) = y.take (k + 1) := by
  rw [List.take_add_one, List.take_add_one, h, hx, hy]
set_option maxRecDepth 100000 in
theorem pl_get {w : World} {Q : Nat → Prop} {a : Option Addr} {t : List Pl} (h : CQ w Q a (t.map GV)) (hg : ∀ g ∈ t, GQ w Q g) {k : Nat} (hk : k < t.length) : ∃ (x : Pl) (b o : Nat), t[k]? = some x ∧ GQ w Q x ∧ a = some ⟨b, o, none⟩ ∧ w.cell? ⟨b, o + k, none⟩ = some (.slice x.a x.l.length x.cap) := by
  have hx : t[k]? = some t[k] := List.getElem?_eq_getElem hk
  obtain ⟨b, o, e, _, hc⟩ := h k (GV t[k]) (by rw [List.getElem?_map, hx]; rfl)
  exact ⟨_, b, o, hx, hg _ (List.getElem_mem _), e, hc⟩
set_option maxRecDepth 100000 in
theorem part_get {w : World} {Q : Nat → Prop} {x : Pl} (h : GQ w Q x) {k : Nat} (hk : k < x.l.length) : ∃ (y : Part) (b o : Nat), x.bs[k]? = some y.bs ∧ At w y.a y.bs ∧ x.a = some ⟨b, o, none⟩ ∧ w.cell? ⟨b, o + k, none⟩ = some (.slice y.a y.bs.length y.cap) := by
  have hx : x.l[k]? = some x.l[k] := List.getElem?_eq_getElem hk
  obtain ⟨b, o, e, _, hc⟩ := h.at_ k (PV x.l[k]) (by rw [List.getElem?_map, hx]; rfl)
  exact ⟨_, b, o, by rw [Pl.bs, List.getElem?_map, hx]; rfl, (h.all _ (List.getElem_mem _)).at_.at, e, hc⟩
set_option maxRecDepth 100000 in
theorem pl_len (x : Pl) : x.bs.length = x.l.length := by simp [Pl.bs]
set_option maxRecDepth 100000 in
theorem same_no {t1 t2 : List Pl} {k : Nat} {x1 x2 : Pl} (h1 : t1[k]? = some x1) (h2 : t2[k]? = some x2) (h : x1.bs ≠ x2.bs) : ¬ t1.map Pl.bs = t2.map Pl.bs := fun e => by
  have e1 : (t1.map Pl.bs)[k]? = some x1.bs := by rw [List.getElem?_map, h1]; rfl
  rw [e, List.getElem?_map, h2] at e1
  exact h (by simpa using e1.symm)
set_option maxRecDepth 100000 in
set_option maxHeartbeats 4000000 in
theorem same8 {Q1 Q2 : Nat → Prop} (a1 a2 : Option Addr) (c1 c2 n1 n2 : Nat) (t1 t2 : List Pl) (w : World) (hn1 : t1.length = n1) (hn2 : t2.length = n2) (h1 : CQ w Q1 a1 (t1.map GV)) (g1 : ∀ g ∈ t1, GQ w Q1 g) (h2 : CQ w Q2 a2 (t2.map GV)) (g2 : ∀ g ∈ t2, GQ w Q2 g) (hb : n1 ≤ 1000000 ∧ n2 ≤ 1000000) (hm : (∀ g ∈ t1, g.l.length ≤ 1000000) ∧ ∀ g ∈ t2, g.l.length ≤ 1000000) :
    Calls Tryz.prog 34 #[.slice a1 n1 c1, .slice a2 n2 c2] w (Adding (.bool (decide (t1.map Pl.bs = t2.map Pl.bs))) w) := by
  by_cases hne : n1 = n2
  · subst hne
    have HG := hid (fun k (hk : k < n1) => pl_get h1 g1 (show k < t1.length by omega))
    have HG2 := hid (fun k (hk : k < n1) => pl_get h2 g2 (show k < t2.length by omega))
    have HL := hid (And.intro hn1 (And.intro hn2 hm))
    have hb1 := hb.1
    clear h1 g1 h2 g2 hn1 hn2 hb hm
    go_enter Tryz.func34, Tryz.ntmps34
    go_wp2_with fail
    go_loopw [5] (fun i wr => ∃ k : Nat, k ≤ n1 ∧ i = .int .i64 (k : Int) ∧ Hid ((t1.map Pl.bs).take k = (t2.map Pl.bs).take k ∧ Adds w wr)) (fun i _ => n1 - (intOf i).toNat)
    case atStart => exact ⟨0, Nat.zero_le _, rfl, rfl, Touch.refl _ _⟩
    case round =>
      obtain ⟨k, hk, rfl, HI⟩ := hrel
      by_cases hlt : k < n1
      · obtain ⟨x1, b1, o1, hx1, hq1, rfl, hc1⟩ := HG.out k hlt
        obtain ⟨x2, b2, o2, hx2, hq2, rfl, hc2⟩ := HG2.out k hlt
        have d1 : wr.cell? ⟨b1, o1 + k, none⟩ = some (.slice x1.a x1.l.length x1.cap) := below_adds HI.out.2 hc1
        have d2 : wr.cell? ⟨b2, o2 + k, none⟩ = some (.slice x2.a x2.l.length x2.cap) := below_adds HI.out.2 hc2
        obtain ⟨m1, hm1⟩ : ∃ m1, m1 = x1.l.length := ⟨_, rfl⟩
        obtain ⟨m2, hm2⟩ : ∃ m2, m2 = x2.l.length := ⟨_, rfl⟩
        have hm1b : m1 ≤ 1000000 := by rw [hm1]; exact HL.out.2.2.1 x1 (List.mem_of_getElem? hx1)
        have hm2b : m2 ≤ 1000000 := by rw [hm2]; exact HL.out.2.2.2 x2 (List.mem_of_getElem? hx2)
        rw [← hm1] at d1
        rw [← hm2] at d2
        have HX := hid (And.intro hx1 (And.intro hx2 (And.intro hq1 (And.intro hq2 (And.intro hm1 (And.intro hm2 (And.intro hc1 hc2)))))))
        clear hx1 hx2 hq1 hq2 hc1 hc2 HG HG2
        by_cases hmm : m1 = m2
        · subst hmm
          go_upto_region 6 with fail
          go_region
          go_wp2_with fail
          have HA2 := hid (show Adds w wr.drew from HI.out.2.drew)
          have hd1 : wr.drew.cell? ⟨b1, o1 + k, none⟩ = some (.slice x1.a m1 x1.cap) := d1
          have hd2 : wr.drew.cell? ⟨b2, o2 + k, none⟩ = some (.slice x2.a m1 x2.cap) := d2
          obtain ⟨wd, hwd⟩ : ∃ wd, wd = wr.drew := ⟨_, rfl⟩
          rw [← hwd]
          rw [← hwd] at HA2 hd1 hd2
          clear hwd d1 d2
          go_loopw [6] (fun j wz => ∃ q : Nat, q ≤ m1 ∧ j = .int .i64 (q : Int) ∧ Hid (x1.bs.take q = x2.bs.take q ∧ Adds wd wz)) (fun j _ => m1 - (intOf j).toNat)
          case atStart => exact ⟨0, Nat.zero_le _, rfl, rfl, Touch.refl _ _⟩
          case round =>
            obtain ⟨q, hq, rfl, HJ⟩ := hrel
            have k1 := below_adds HJ.out.2 hd1
            have k2 := below_adds HJ.out.2 hd2
            by_cases hql : q < m1
            · obtain ⟨y1, e1, f1, hy1, at1, ha1, hcy1⟩ := part_get HX.out.2.2.1 (k := q) (by rw [← HX.out.2.2.2.2.1]; exact hql)
              obtain ⟨y2, e2, f2, hy2, at2, ha2, hcy2⟩ := part_get HX.out.2.2.2.1 (k := q) (by rw [← HX.out.2.2.2.2.2.1]; exact hql)
              rw [ha1] at k1
              rw [ha2] at k2
              have r1 := below_adds (HA2.out.trans HJ.out.2) hcy1
              have r2 := below_adds (HA2.out.trans HJ.out.2) hcy2
              have v1 := conv_at wr.drew y1.a y1.bs y1.cap ((at1.adds (HA2.out.trans HJ.out.2)).adds (Touch.refl _ wr).drew)
              have v2 := conv_at wr.drew y2.a y2.bs y2.cap ((at2.adds (HA2.out.trans HJ.out.2)).adds (Touch.refl _ wr).drew)
              have HY := hid (And.intro hy1 hy2)
              clear hy1 hy2 at1 at2 hcy1 hcy2 ha1 ha2
              by_cases hs : y1.bs = y2.bs
              · have hss : (y1.bs == y2.bs) = true := by rw [hs]; simp
                have HS := hid hs
                clear hs
                go_upto_region 11 with fail
                go_region
                go_wp2_with fail
                go_roundw
                case rel => exact ⟨q + 1, by omega, by go_num, take_eq_next HJ.out.1 HY.out.1 (by rw [HS.out]; exact HY.out.2), HJ.out.2.drew⟩
                case measure => simp [intOf]; omega
              · have hss : (y1.bs == y2.bs) = false := by simpa using hs
                have HS := hid hs
                clear hs
                go_upto_region 11 with fail
                go_region
                go_wp2_with fail
                go_ret
                refine ⟨?_, (HA2.out.trans HJ.out.2).drew⟩
                rw [decide_eq_false (same_no HX.out.1 HX.out.2.1 (fun e => HS.out (by have q1 := HY.out.1; rw [e, HY.out.2] at q1; simpa using q1.symm)))]
                rfl
            · obtain rfl : q = m1 := by omega
              go_wp2_with fail
              go_roundw
              case rel =>
                have e : x1.bs = x2.bs := by
                  have q1 := HJ.out.1
                  rw [List.take_of_length_le (by rw [pl_len, ← HX.out.2.2.2.2.1]; exact Nat.le_refl _), List.take_of_length_le (by rw [pl_len, ← HX.out.2.2.2.2.2.1]; exact Nat.le_refl _)] at q1
                  exact q1
                exact ⟨k + 1, by omega, by go_num, take_eq_next HI.out.1 (by rw [List.getElem?_map, HX.out.1]; rfl) (by rw [List.getElem?_map, HX.out.2.1, e]; rfl), HA2.out.trans HJ.out.2⟩
              case measure => simp [intOf]; omega
        · have hmm' : (m1 != m2) = true := by simpa using hmm
          go_upto_region 6 with fail
          go_region
          go_wp2_with fail
          go_ret
          refine ⟨?_, (HI.out.2.drew)⟩
          rw [decide_eq_false (same_no HX.out.1 HX.out.2.1 (fun e => hmm (by rw [HX.out.2.2.2.2.1, HX.out.2.2.2.2.2.1, ← pl_len x1, ← pl_len x2, e])))]
          rfl
      · obtain rfl : k = n1 := by omega
        go_wp2_with fail
        go_ret
        refine ⟨?_, HI.out.2⟩
        have e : t1.map Pl.bs = t2.map Pl.bs := by
          have q := HI.out.1
          rw [List.take_of_length_le (by rw [List.length_map, HL.out.1]; exact Nat.le_refl _), List.take_of_length_le (by rw [List.length_map, HL.out.2.1]; exact Nat.le_refl _)] at q
          exact q
        rw [decide_eq_true e]
        rfl
  · have e : ¬ t1.map Pl.bs = t2.map Pl.bs := fun e => hne (by have q := congrArg List.length e; rw [List.length_map, List.length_map, hn1, hn2] at q; exact q)
    have HE := hid e
    have hne' : (n1 != n2) = true := by simpa using hne
    clear e h1 g1 h2 g2 hm
    go_enter Tryz.func34, Tryz.ntmps34
    go_wp2_with fail
    go_ret
    exact ⟨by rw [decide_eq_false HE.out]; rfl, Touch.refl _ _⟩
end Go.Proofs.YtllkplanjfnnmaaGreatDoor

/- The reference's log: where it lies; Used. -/
namespace Go.Proofs.YtllkplanjfnnmaaGreatDoor
open Go.RowKit

/-- The reference's log q over its disk rp: what is its own (OQ), its list vL of groups t, what waits (s). -/
structure IsQ (w : World) (OQ : Nat → Prop) (q rp : Nat) (vL : Value) (t : List Pl) (s : Pl) (L : LS) : Prop where
  box : w.heap[q]? = some (.cells #[Ptr rp, .int .i64 (L.fr : Int), .int .i64 (L.ct : Int), .int .i64 (L.ep : Int), .bool L.cl, vL, GV s] 67 (0, 0))
  rows : w.ownsRow 0 61 1 vL t.length (t.map GV)
  oq : OQ q
  ol : ∀ k, vL.ownBlock = some k → OQ k
  data : ∀ g ∈ t, GQ w (fun k => OQ k ∧ vL.ownBlock ≠ some k ∧ k ≠ q) g
  wait : GQ w (fun k => OQ k ∧ vL.ownBlock ≠ some k ∧ k ≠ q) s
  same : t.map Pl.bs = L.G.map W.recs
  rest : s.bs = L.R
theorem IsQ.touch {w w' : World} {OQ T : Nat → Prop} {q rp : Nat} {vL : Value} {t : List Pl} {s : Pl} {L : LS} (h : IsQ w OQ q rp vL t s L) (hT : Touch T w w') (hn : ∀ k, OQ k → ¬ T k) : IsQ w' OQ q rp vL t s L :=
  ⟨hT.at' h.box (hn q h.oq), row_touch h.rows hT (fun k hk => hn k (h.ol k hk)), h.oq, h.ol, fun g hg => (h.data g hg).touch hT (fun k c => hn k c.1), h.wait.touch hT (fun k c => hn k c.1), h.same, h.rest⟩
theorem IsQ.add {w w' : World} {OQ : Nat → Prop} {q rp : Nat} {vL : Value} {t : List Pl} {s : Pl} {L : LS} (h : IsQ w OQ q rp vL t s L) (hA : Adds w w') : IsQ w' OQ q rp vL t s L := h.touch hA (fun _ _ => id)
theorem IsQ.apart {w : World} {OQ : Nat → Prop} {q rp : Nat} {vL : Value} {t : List Pl} {s : Pl} {L : LS} (h : IsQ w OQ q rp vL t s L) : vL.ownBlock ≠ some q := fun e => by
  obtain ⟨c, hc⟩ := row_type h.rows e
  rw [h.box] at hc
  simp at hc
set_option maxRecDepth 100000 in
theorem IsQ.len {w : World} {OQ : Nat → Prop} {q rp : Nat} {vL : Value} {t : List Pl} {s : Pl} {L : LS} (h : IsQ w OQ q rp vL t s L) : t.length = L.G.length := by
  have q := congrArg List.length h.same
  rwa [List.length_map, List.length_map] at q
set_option maxRecDepth 100000 in
/-- The k-th group. -/
theorem IsQ.get {w : World} {OQ : Nat → Prop} {q rp : Nat} {vL : Value} {t : List Pl} {s : Pl} {L : LS} (h : IsQ w OQ q rp vL t s L) {k : Nat} (hk : k < L.G.length) : ∃ (x : Pl) (b cap : Nat) (g : List UInt8), vL = .slice (some ⟨b, 0, none⟩) t.length cap ∧ w.cell? ⟨b, k, none⟩ = some (.slice x.a x.l.length x.cap) ∧ GQ w (fun _ => True) x ∧ L.G[k]? = some g ∧ x.bs = W.recs g ∧ g ∈ L.G := by
  have ht : k < t.length := by rw [h.len]; exact hk
  obtain ⟨a, cap, e, _, _, hq⟩ := own_cq h.rows
  obtain ⟨x, b, o, hx, hg, ha, hc⟩ := pl_get (Q := fun _ => True) (hq.mono (fun _ _ _ => trivial)) (fun g hg => (h.data g hg).mono (fun _ _ _ => trivial)) ht
  have e2 : (t.map Pl.bs)[k]? = some x.bs := by rw [List.getElem?_map, hx]; rfl
  rw [h.same, List.getElem?_map, List.getElem?_eq_getElem hk] at e2
  have e3 : W.recs L.G[k] = x.bs := Option.some.inj e2
  rcases h.rows.2 with ⟨e4, e5⟩ | ⟨g, cap', cur, e4, _⟩
  · rw [e5] at ht; exact absurd ht (Nat.not_lt_zero _)
  · rw [e] at e4
    cases e4
    cases ha
    refine ⟨x, _, _, L.G[k], e, by rw [Nat.zero_add] at hc; exact hc, hg, List.getElem?_eq_getElem hk, e3.symm, List.getElem_mem _⟩
set_option maxRecDepth 100000 in
theorem used_take {G : List (List UInt8)} {k : Nat} {g : List UInt8} (h : G[k]? = some g) : W.usedOf (G.take (k + 1)) = W.usedOf (G.take k) + W.secs g.length := by
  rw [List.take_add_one, h, W.usedOf_app]
  simp [W.usedOf]
set_option maxRecDepth 100000 in
theorem used_le (G : List (List UInt8)) (k : Nat) : W.usedOf (G.take k) ≤ W.usedOf G := by
  conv => rhs; rw [← List.take_append_drop k G]
  rw [W.usedOf_app]; omega
set_option maxRecDepth 100000 in
theorem len_used : ∀ G : List (List UInt8), G.length ≤ W.usedOf G
  | [] => Nat.le_refl _
  | g :: G => by
    have := len_used G
    rw [W.usedOf, List.length_cons]
    have h : 1 ≤ W.secs g.length := by unfold W.secs; omega
    omega
set_option maxRecDepth 100000 in
theorem good_len {L : LS} (h : L.Ok) {g : List UInt8} (hg : g ∈ L.G) : g.length ≤ 2330000 := by
  obtain ⟨a, b, e⟩ := List.append_of_mem hg
  have h1 := h.us
  have h2 := h.ct
  rw [e, W.usedOf_app, W.usedOf] at h1
  have h3 : W.secs g.length ≤ 10000 := by omega
  have := secs_len h3
  omega
end Go.Proofs.YtllkplanjfnnmaaGreatDoor

/- The reference's log: Used, Begin. -/
namespace Go.Proofs.YtllkplanjfnnmaaGreatDoor
open Go.RowKit

set_option maxRecDepth 100000 in
set_option maxHeartbeats 1000000 in
theorem q_used {w : World} {OQ : Nat → Prop} {q rp : Nat} {vL : Value} {t : List Pl} {s : Pl} {L : LS} (h : IsQ w OQ q rp vL t s L) (hok : L.Ok) (hct : L.ct ≤ 1000) : Calls Tryz.prog 35 #[Ptr q] w (Adding (.int .i64 (W.usedOf L.G : Int)) w) := by
  obtain ⟨va, vc, hv, _⟩ := own_cq h.rows
  subst hv
  obtain ⟨n, hn⟩ : ∃ n, n = t.length := ⟨_, rfl⟩
  obtain ⟨U, hU⟩ : ∃ U, U = W.usedOf L.G := ⟨_, rfl⟩
  have hnG : n = L.G.length := by rw [hn, h.len]
  have hUb : U ≤ 1000 := by have := hok.us; omega
  have hnU : n ≤ U := by rw [hnG, hU]; exact len_used _
  have HQ := hid h
  have HK := hid hok
  have HN := hid (And.intro hn (And.intro hnG hU))
  rw [← hU]
  clear h hok hn hnG hU
  go_enter Tryz.func35, Tryz.ntmps35
  go_wp2_with fail
  go_loopw [3, 4] (fun r i wr => ∃ (k u : Nat), k ≤ n ∧ u ≤ U ∧ i = .int .i64 (k : Int) ∧ r = .int .i64 (u : Int) ∧ Hid (u = W.usedOf (L.G.take k) ∧ Adds w wr)) (fun _ i _ => n - (intOf i).toNat)
  case atStart => exact ⟨0, 0, Nat.zero_le _, Nat.zero_le _, rfl, rfl, rfl, Touch.refl _ _⟩
  case round =>
    obtain ⟨k, u, hk, hu, rfl, rfl, HI⟩ := hrel
    have c5 : wr.cell? ⟨q, 5, none⟩ = some (.slice va n vc) := by
      rw [HN.out.1]
      have q := cellOf (Touch.at' HI.out.2 HQ.out.box id) 5
      simpa using q
    by_cases hlt : k < n
    · obtain ⟨x, b, cap, g, e, hc, hg, hG, hxb, hmem⟩ := HQ.out.get (k := k) (by rw [← HN.out.2.1]; exact hlt)
      cases e
      obtain ⟨m, hm⟩ : ∃ m, m = x.l.length := ⟨_, rfl⟩
      have hcx : wr.cell? ⟨b, k, none⟩ = some (.slice x.a m x.cap) := by rw [hm]; exact below_adds HI.out.2 hc
      have hgood := HK.out.good g hmem
      have hgb : W.gbytes x.bs = g := by rw [hxb]; exact (W.recsM_one hgood.2).symm
      have hgl : g.length ≤ 233000 := by
        have h1 : W.secs g.length ≤ 1000 := by
          have h2 := used_take hG
          have h3 := used_le L.G (k + 1)
          have h4 := HN.out.2.2
          omega
        have := secs_len h1
        omega
      obtain ⟨sc, hsc⟩ : ∃ sc, sc = W.secs g.length := ⟨_, rfl⟩
      have HS := hid (show Calls Tryz.prog 50 #[.slice x.a m x.cap] wr (Adding (.int .i64 (sc : Int)) wr) by
        have q := sectors8_any x m hm.symm wr (hg.adds HI.out.2) (by have h1 := texts_le x.bs; rw [hgb] at h1; omega)
        rw [hgb, ← hsc] at q
        exact q)
      have hus : u + sc ≤ U := by
        have h2 := used_take hG
        have h3 := used_le L.G (k + 1)
        have h4 := HN.out.2.2
        have h5 := HI.out.1
        omega
      have HX := hid (show u + sc = W.usedOf (L.G.take (k + 1)) by rw [used_take hG, HI.out.1, hsc])
      clear hc hg hG hxb hmem hgood hgb hgl hsc hm
      go_wp2_with (go_at_call 50; refine HS.out.mono ?_; rintro e w1 ⟨rfl, hA1⟩; have A1 := hid (HI.out.2.trans hA1); clear hA1)
      go_roundw
      case rel => exact ⟨k + 1, u + sc, by omega, hus, by go_num, by go_num, HX.out, A1.out⟩
      case measure => simp [intOf]; omega
    · obtain rfl : n = k := by omega
      have HE := hid (show u = U by rw [HI.out.1, HN.out.2.2, HN.out.2.1, List.take_length])
      go_wp2_with fail
      go_ret
      exact ⟨by rw [← HE.out]; rfl, HI.out.2⟩
/-- What a call of the reference's log leaves. -/
def PIq (w : World) (OQ : Nat → Prop) (q rp : Nat) (L : LS) (z : Int) (e : Ending) (w' : World) : Prop := e = .returned (.int .i64 z) ∧ Hid (∃ OQ' vL t s, IsQ w' OQ' q rp vL t s L ∧ Touch OQ w w' ∧ ∀ k, OQ' k → OQ k ∨ (w.heap.size ≤ k ∧ k < w'.heap.size))
theorem PIq.same {w : World} {OQ : Nat → Prop} {q rp : Nat} {vL : Value} {t : List Pl} {s : Pl} {L : LS} (h : IsQ w OQ q rp vL t s L) {w' : World} (hA : Adds w w') (z : Int) : PIq w OQ q rp L z (.returned (.int .i64 z)) w' :=
  ⟨rfl, OQ, vL, t, s, h.add hA, hA.mono (fun _ _ c => c.elim), fun _ c => .inl c⟩
set_option maxRecDepth 100000 in
set_option maxHeartbeats 1000000 in
theorem q_begin {w : World} {OQ : Nat → Prop} {q rp : Nat} {vL : Value} {t : List Pl} {s : Pl} {L : LS} (h : IsQ w OQ q rp vL t s L) (e : Int) : Calls Tryz.prog 26 #[Ptr q, .int .i64 e] w (PIq w OQ q rp (begL L e) (begE L e)) := by
  have HQ := hid h
  have c3 : w.cell? ⟨q, 3, none⟩ = some (.int .i64 (L.ep : Int)) := by have c := cellOf h.box 3; simpa using c
  by_cases hb : e ≤ L.ep ∨ 1000000000 < e
  · have HE := hid (show begE L e = 2 ∧ begL L e = L by rw [begE, begL, if_pos hb, if_pos hb]; exact ⟨rfl, rfl⟩)
    rw [HE.out.1, HE.out.2]
    clear h
    by_cases h1 : e ≤ L.ep
    · have h1b : decide (e ≤ (L.ep : Int)) = true := by simpa using h1
      clear hb h1
      go_enter Tryz.func26, Tryz.ntmps26
      go_wp2_with fail
      go_ret
      exact PIq.same HQ.out (Touch.refl _ _) 2
    · have h1b : decide (e ≤ (L.ep : Int)) = false := by simpa using h1
      have h2b : decide ((1000000000 : Int) < e) = true := by simpa using hb.resolve_left h1
      clear hb h1
      go_enter Tryz.func26, Tryz.ntmps26
      go_wp2_with fail
      go_ret
      exact PIq.same HQ.out (Touch.refl _ _) 2
  · obtain ⟨n, rfl⟩ : ∃ n : Nat, e = (n : Int) := ⟨e.toNat, by omega⟩
    have h1b : decide (n ≤ L.ep) = false := by simp; omega
    have h2b : decide ((1000000000 : Int) < (n : Int)) = false := by simp; omega
    have h3b : decide (1000000000 < n) = false := by simp; omega
    have HE := hid (show begE L n = 0 ∧ begL L n = { L with ep := n, cl := false, G := [], R := [] } by rw [begE, begL, if_neg hb, if_neg hb]; exact ⟨rfl, rfl⟩)
    rw [HE.out.1, HE.out.2]
    have c4 : w.cell? ⟨q, 4, none⟩ = some (.bool L.cl) := by have c := cellOf h.box 4; simpa using c
    have c5 : w.cell? ⟨q, 5, none⟩ = some vL := by have c := cellOf h.box 5; simpa using c
    have c6 : w.cell? ⟨q, 6, none⟩ = some (GV s) := by have c := cellOf h.box 6; simpa using c
    have f3 : w.frozen? ⟨q, 3, none⟩ = false := frozen_of_row w q 3 _ 67 h.box
    have f4 : w.frozen? ⟨q, 4, none⟩ = false := frozen_of_row w q 4 _ 67 h.box
    have f5 : w.frozen? ⟨q, 5, none⟩ = false := frozen_of_row w q 5 _ 67 h.box
    have f6 : w.frozen? ⟨q, 6, none⟩ = false := frozen_of_row w q 6 _ 67 h.box
    clear h hb
    go_enter Tryz.func26, Tryz.ntmps26
    go_wp2_with fail
    go_ret
    refine ⟨rfl, OQ, .slice none 0 0, [], ⟨none, 0, []⟩, ⟨?_, World.ownsRow_nil _ _ _ _, HQ.out.oq, fun _ c => (by cases c), fun _ c => (by cases c), ⟨CQ.nil _ _ _, fun _ => rfl, fun _ c => (by cases c)⟩, rfl, rfl⟩, ?_, fun _ c => .inl c⟩
    · exact heap_setCell_same _ q 6 _ 67 _ (heap_setCell_same _ q 5 _ 67 _ (heap_setCell_same _ q 4 _ 67 _ (heap_setCell_same w q 3 _ 67 _ HQ.out.box)))
    · exact Touch.setCell (T := OQ) (Touch.setCell (T := OQ) (Touch.setCell (T := OQ) (Touch.setCell (T := OQ) (Touch.refl _ w) (p := ⟨q, 3, none⟩) (fun _ => HQ.out.oq) _) (p := ⟨q, 4, none⟩) (fun _ => HQ.out.oq) _) (p := ⟨q, 5, none⟩) (fun _ => HQ.out.oq) _) (p := ⟨q, 6, none⟩) (fun _ => HQ.out.oq) _
end Go.Proofs.YtllkplanjfnnmaaGreatDoor
