/- Texts put together: WRef, WFull0, WFull. -/
import Derived.Test.YtllkplanjfnnmaaDoorQ28
/- The reference's bytes of a group, and how many sectors they have. -/
namespace Go.Proofs.YtllkplanjfnnmaaDoor
open Go.RowKit

set_option maxRecDepth 100000 in
theorem append_bm {w : World} {ops : Array Oper} {rest : List Oper} {o : Oper} {act : Act} {Q : Exit → Act → World → Prop} {Q' : Nat → Prop} (hgd : o.guard = none) (s x : Operand)
    (ho : o.op = .call { callee := .builtin .append, args := #[s, x], argTypes := #[33, 33] }) (v : Value) (n : Nat) (xs : List Value) (hs : act.eval s = v) (hown : w.ownsRow 0 22 1 v n xs)
    (a : Option Addr) (m cap : Nat) (news : List Value) (hm : news.length = m) (hx : act.eval x = .slice a m cap) (hcap : a = none → cap = 0) (hA : CQ w Q' a news) (h1 : ∀ u ∈ news, u.oneCell' = true) (hlen : n + m ≤ 10000000)
    (h : ∀ v' w', Grew w w' 22 v v' (n + m) (xs ++ news) → wpList Tryd.prog ops Q rest (act.put o.dst v') w') : wpList Tryd.prog ops Q (o :: rest) act w := by
  obtain ⟨i0, hi, hz0, hz1, hz2⟩ := infoB
  cases a with
  | none =>
    obtain rfl := hcap rfl
    obtain rfl : news = [] := by
      cases news with
      | nil => rfl
      | cons u l => obtain ⟨b, o', e, _⟩ := hA 0 u rfl; cases e
    obtain rfl : m = 0 := by rw [← hm]; rfl
    exact wpList_append_own_none hgd s x 33 ho 0 22 i0 1 Tryd.underlying33 hi v n xs hs hown hx (h v w ⟨by simpa using hown, ⟨rfl, rfl, rfl, Nat.le_refl _, fun _ _ _ => rfl⟩, .inl rfl⟩)
  | some ad =>
    refine wpList_append_own_at _ hgd s x 33 ho 0 22 i0 (.slice none 0 0) 1 24 Tryd.underlying33 hi hz0 hz1 hz2 rfl (by decide) v n xs hs hown ad m cap news hx (by omega) ?_ h1 (by unfold maxLen; omega) (by omega) (Nat.zero_le _) (fun v' w' g1 g2 _ g4 => h v' w' ⟨g1, g2, g4⟩)
    intro j y hj
    obtain ⟨b, o', e, _, hc⟩ := hA j y hj
    obtain rfl : ad = ⟨b, o', none⟩ := by simpa using e
    rw [Addr.add_mid]; exact hc
set_option maxRecDepth 100000 in
theorem one_PV (l : List Part) : ∀ u ∈ l.map PV, u.oneCell' = true := by
  intro u hu
  obtain ⟨x, _, rfl⟩ := List.mem_map.1 hu
  rfl
set_option maxRecDepth 100000 in
theorem texts_take {ls : List (List UInt8)} {k : Nat} {x : List UInt8} (h : ls[k]? = some x) : W.texts (ls.take (k + 1)) = W.texts (ls.take k) ++ W.text x := by
  rw [List.take_add_one, h, Option.toList_some, W.texts_app, W.texts_one]
set_option maxRecDepth 100000 in
theorem texts_mono (ls : List (List UInt8)) (k : Nat) : (W.texts (ls.take k)).length ≤ (W.texts ls).length := by
  have : W.texts ls = W.texts (ls.take k) ++ W.texts (ls.drop k) := by rw [← W.texts_app, List.take_append_drop]
  rw [this, List.length_append]; omega
set_option maxRecDepth 100000 in
set_option maxHeartbeats 2000000 in
theorem bytes8_any {Q : Nat → Prop} (g : Pl) (n : Nat) (hn : g.l.length = n) (w : World) (hG : GQ w Q g) (hl : (W.texts g.bs).length ≤ 900000) : Calls Tryd.prog 40 #[.slice g.a n g.cap] w (POwn w (W.full (W.gbytes g.bs))) := by
  have hnl : n ≤ 900000 := by have h1 := W.texts_len g.bs; have h2 : g.bs.length = n := by rw [Pl.bs, List.length_map, hn]
                              omega
  have HU := hid (ruintp_any n (by omega) w)
  have HD := hid (show ∀ k, k < n → ∃ x : Part, g.bs[k]? = some x.bs ∧ x.bs.length ≤ 900000 ∧ PQ w Q x ∧ ∃ b o, g.a = some ⟨b, o, none⟩ ∧ w.cell? ⟨b, o + k, none⟩ = some (.slice x.a x.bs.length x.cap) from fun k hk => by
    have hx : g.l[k]? = some (g.l[k]'(by omega)) := List.getElem?_eq_getElem (by omega)
    obtain ⟨b, o, e, _, hc⟩ := hG.at_ k (PV (g.l[k]'(by omega))) (by rw [List.getElem?_map, hx]; rfl)
    have hm : (g.l[k]'(by omega)) ∈ g.l := List.getElem_mem _
    refine ⟨_, by rw [Pl.bs, List.getElem?_map, hx]; rfl, ?_, hG.all _ hm, b, o, e, hc⟩
    have : (g.l[k]'(by omega)).bs ∈ g.bs := List.mem_map_of_mem hm
    have := W.texts_mem this
    omega)
  obtain ⟨el, hel⟩ : ∃ el, el = (M.enc n).length := ⟨_, rfl⟩
  have hel2 : el ≤ 10 := by rw [hel]; exact M.len_enc10 (by omega)
  have HE := hid hel
  have HGB := hid (show W.gbytes g.bs = M.enc n ++ W.texts g.bs by rw [W.gbytes, Pl.bs, List.length_map, hn])
  have HL := hid hl
  have HN := hid (show g.bs.length = n by rw [Pl.bs, List.length_map, hn])
  have HT := hid (fun (w' : World) (ts : List UInt8) (ht : ts.length ≤ 900000) => rtextp_any ts (by omega) w')
  have HF := hid (fun (w' : World) (m : Nat) (hm : m ≤ 1000000) => show Calls Tryd.prog 60 #[.int .u64 (m : Int), .int .i64 4] w' (POwn w' (M.fix m 4)) from rfixedp_any m (by omega) 4 w')
  clear hG hl hel
  generalize g.a = ga at *
  go_enter Tryd.func40, Tryd.ntmps40
  go_wp2_with (first
    | (go_at_call 58; refine HU.out.mono ?_; rintro e w1 ⟨v1, rfl, o1, A1⟩; have H1 := hid (And.intro o1 A1); clear o1 A1))
  go_loopw [3, 4] (fun v i wr => ∃ k : Nat, k ≤ n ∧ i = .int .i64 (k : Int) ∧ Hid (wr.ownsRow 0 5 1 v (M.enc n ++ W.texts (g.bs.take k)).length (S (M.enc n ++ W.texts (g.bs.take k))) ∧ (∀ j, v.ownBlock = some j → w.heap.size ≤ j) ∧ Adds w wr)) (fun _ i _ => n - (intOf i).toNat)
  case atStart => exact ⟨0, Nat.zero_le _, rfl, by simpa [W.texts] using row_base (C := 0) H1.out.1 (fun _ _ => Nat.zero_le _), fun j hj => (row_low H1.out.1 hj).1, H1.out.2⟩
  case round =>
    obtain ⟨k, hk, rfl, HI⟩ := hrel
    by_cases hlt : k < n
    · obtain ⟨x, hx, hxl, hxq, b, o, rfl, hxc⟩ := HD.out k hlt
      have hc : wr.cell? ⟨b, o + k, none⟩ = some (.slice x.a x.bs.length x.cap) := below_adds HI.out.2.2 hxc
      have hcv := conv_at wr x.a x.bs x.cap (hxq.at_.at.adds HI.out.2.2)
      have HX := hid (HT.out wr x.bs hxl)
      have HXX := hid hx
      have hk1 := texts_mono g.bs k
      obtain ⟨m, hm⟩ : ∃ m, m = (M.enc n ++ W.texts (g.bs.take k)).length := ⟨_, rfl⟩
      have hm2 : m ≤ 900010 := by rw [hm, List.length_append, ← HE.out]; have := HL.out; omega
      have HM := hid (show wr.ownsRow 0 5 1 u3 m (S (M.enc n ++ W.texts (g.bs.take k))) by rw [hm]; exact HI.out.1)
      have HMM := hid hm
      clear hx hxq hxc HD hk1 hm
      go_wp2_with (first
        | (go_at_call 59; refine HX.out.mono ?_; rintro e w2 ⟨v2, rfl, o2, A2⟩; obtain ⟨ea, ec, hv2, q1, q2, q3⟩ := own_cq o2
           obtain ⟨eb, eo, hea⟩ := q3.at.ad (W.text_pos x.bs)
           subst hea
           obtain ⟨tl, htl⟩ : ∃ tl, tl = (M.enc x.bs.length ++ x.bs).length := ⟨_, rfl⟩
           have htl2 : tl ≤ 900010 := by rw [htl, List.length_append]; have := M.len_enc10 (n := x.bs.length) (by omega); omega
           rw [← htl] at hv2
           subst hv2
           have H2 := hid (And.intro q3.at (And.intro A2 (And.intro htl (row_touch HM.out A2 (fun _ _ => id)))))
           clear o2 A2 q1 q2 q3 htl)
        | (at_builtin; refine append_t rfl _ _ rfl u3 m (S (M.enc n ++ W.texts (g.bs.take k))) rfl H2.out.2.2.2 ⟨eb, eo, none⟩ (M.enc x.bs.length ++ x.bs) tl ec H2.out.2.2.1.symm rfl H2.out.1 (by omega) ?_; intro v3 w3 G3; have HG := hid G3; clear G3))
      go_roundw
      case rel =>
        have hG := HG.out
        have e1 : M.enc n ++ W.texts (g.bs.take (k + 1)) = (M.enc n ++ W.texts (g.bs.take k)) ++ (M.enc x.bs.length ++ x.bs) := by rw [texts_take HXX.out, List.append_assoc]; rfl
        have hs2 := H2.out.2.1.size
        have hs0 := HI.out.2.2.size
        refine ⟨k + 1, by omega, by go_num, ?_, hG.lt (by omega) HI.out.2.1, (HI.out.2.2.trans H2.out.2.1).then hG.touch (fun j hj c => by have := HI.out.2.1 j c; omega)⟩
        rw [e1, List.length_append, S_append, ← HMM.out, ← H2.out.2.2.1]
        exact hG.1
      case measure => simp [intOf]; omega
    · obtain rfl : k = n := by omega
      have e0 : M.enc k ++ W.texts (g.bs.take k) = W.gbytes g.bs := by rw [HGB.out, List.take_of_length_le (by rw [HN.out]; exact Nat.le_refl _)]
      obtain ⟨m, hm⟩ : ∃ m, m = (W.gbytes g.bs).length := ⟨_, rfl⟩
      have hm2 : m ≤ 900010 := by rw [hm, HGB.out, List.length_append, ← HE.out]; have := HL.out; omega
      have HM := hid (show wr.ownsRow 0 5 1 u3 m (S (W.gbytes g.bs)) by have q := HI.out.1; rw [e0, ← hm] at q; exact q)
      obtain ⟨ba, bc, hu3, hbc, hba, hbq⟩ := own_cq HM.out
      have hpos : 0 < (W.gbytes g.bs).length := by rw [HGB.out, List.length_append]; have := W.enc_pos k; omega
      obtain ⟨bb, bo, hbb⟩ := hbq.at.ad hpos
      subst hbb
      subst hu3
      have HB := hid hbq.at
      have HX := hid (HF.out wr m (by omega))
      have HMM := hid hm
      clear e0 hbq hba hm hpos
      go_wp2_with (first
        | (go_at_call 60; refine HX.out.mono ?_; rintro e w2 ⟨v2, rfl, o2, A2⟩; rw [M.len_fix] at o2; have H2 := hid (And.intro o2 A2); clear o2 A2)
        | (at_builtin; refine append_t rfl _ _ rfl v2 4 (S (M.fix m 4)) rfl (row_base H2.out.1 (fun _ _ => Nat.zero_le _)) ⟨bb, bo, none⟩ (W.gbytes g.bs) m bc HMM.out.symm rfl (HB.out.adds H2.out.2) (by omega) ?_; intro v3 w3 G3; have HG := hid G3; clear G3))
      go_ret
      have hG := HG.out
      have hs0 := HI.out.2.2.size
      have hs2 := H2.out.2.size
      refine ⟨_, rfl, ?_, (HI.out.2.2.trans H2.out.2).then hG.touch (fun j hj c => by have := (row_low H2.out.1 c).1; omega)⟩
      have e2 : (W.full (W.gbytes g.bs)).length = 4 + m := by rw [W.len_full, HMM.out]
      have e3 : S (W.full (W.gbytes g.bs)) = S (M.fix m 4) ++ S (W.gbytes g.bs) := by rw [W.full, S_append, HMM.out]
      rw [e2, e3]
      exact row_base hG.1 (hG.lt (by omega) (fun j hj => by have := (row_low H2.out.1 hj).1; omega))
set_option maxRecDepth 100000 in
theorem sectors8_any {Q : Nat → Prop} (g : Pl) (n : Nat) (hn : g.l.length = n) (w : World) (hG : GQ w Q g) (hl : (W.texts g.bs).length ≤ 900000) : Calls Tryd.prog 22 #[.slice g.a n g.cap] w (Adding (.int .i64 (W.secs (W.gbytes g.bs).length : Int)) w) := by
  have H := hid (bytes8_any g n hn w hG hl)
  obtain ⟨m, hm⟩ : ∃ m, m = (W.gbytes g.bs).length := ⟨_, rfl⟩
  have hm2 : m ≤ 1000000 := by
    rw [hm, W.gbytes, List.length_append]
    have := M.len_enc10 (n := g.bs.length) (by have := W.texts_len g.bs; omega)
    omega
  have HS := hid (show (W.secs m : Int) = (4 + (m : Int) + 232) / 233 by unfold W.secs; omega)
  have HM := hid hm
  rw [← hm]
  clear hm hG hl
  go_enter Tryd.func22, Tryd.ntmps22
  go_wp2_with (first | (go_at_call 40; refine H.out.mono ?_; rintro e w1 ⟨v1, rfl, o1, A1⟩; rw [W.len_full, ← HM.out] at o1; obtain ⟨va, vc, hv, _, _, _⟩ := own_cq o1; subst hv; have H1 := hid A1; clear A1 o1))
  go_ret
  refine ⟨?_, H1.out⟩
  rw [HS.out]
  go_num
end Go.Proofs.YtllkplanjfnnmaaDoor

/- A group is taken just as long as its pieces have sectors. -/
namespace Go.Proofs.YtllkplanjfnnmaaDoor
open Go.RowKit

/-- Where numbers lie. -/
def NumsAt (w : World) (a : Option Addr) (n : Nat) : Prop := ∀ j, j < n → ∃ b o z, a = some ⟨b, o, none⟩ ∧ w.cell? ⟨b, o + j, none⟩ = some (.int .i64 z)
/-- A law's list of records: of no log, and new. -/
def Mine (w0 w : World) (OL OD : Nat → Prop) (g : Pl) : Prop := GQ w (fun k => w0.heap.size ≤ k ∧ ¬ (OL k ∨ OD k)) g
theorem Mine.next {w0 w w' : World} {OL OD OL' OD' : Nat → Prop} {g : Pl} (h : Mine w0 w OL OD g) (hT : Touch (fun k => OL k ∨ OD k) w w') (hn : ∀ k, OL' k ∨ OD' k → (OL k ∨ OD k) ∨ w.heap.size ≤ k) : Mine w0 w' OL' OD' g :=
  (h.mono (Q' := fun k => (w0.heap.size ≤ k ∧ ¬ (OL k ∨ OD k)) ∧ ¬ (OL' k ∨ OD' k)) (fun k hk q => ⟨q, fun c => by rcases hn k c with c | c; exact q.2 c; omega⟩)).touch hT (fun k q => q.1.2) |>.mono (fun k _ q => ⟨q.1.1, q.2⟩)
theorem Mine.adds {w0 w w' : World} {OL OD : Nat → Prop} {g : Pl} (h : Mine w0 w OL OD g) (hA : Adds w w') : Mine w0 w' OL OD g := GQ.adds h hA
/-- New memory is of no log. -/
theorem Fresh.mine {w0 w w' : World} {OL OD : Nat → Prop} {l p : Nat} {L : LS} {D : dSt} {a : Option Addr} {c : Nat} {hs : List Part} (hW : Wl w0 w OL OD l p L D) (h : GQ w' (fun k => w.heap.size ≤ k) ⟨a, c, hs⟩) : Mine w0 w' OL OD ⟨a, c, hs⟩ :=
  GQ.mono h (fun k _ q => ⟨Nat.le_trans hW.adds.size q, fun c => by have := hW.lt k c; omega⟩)
set_option maxRecDepth 100000 in
theorem part_mine {w0 w w' : World} {OL OD : Nat → Prop} {l p : Nat} {L : LS} {D : dSt} {bs : List UInt8} (hW : Wl w0 w OL OD l p L D) (h : w'.heap[w.heap.size]? = some (.cells (S bs).toArray 5 (0, 0)) ∧ Adds w w') : PQ w' (fun k => w0.heap.size ≤ k ∧ ¬ (OL k ∨ OD k)) ⟨some ⟨w.heap.size, 0, none⟩, bs, bs.length⟩ := by
  refine ⟨fun j u hj => ⟨w.heap.size, 0, rfl, ⟨hW.adds.size, fun c => by have := hW.lt _ c; omega⟩, ?_⟩, fun e => by cases e⟩
  rw [cellOf h.1, Nat.zero_add]
  simpa using hj
set_option maxRecDepth 100000 in
theorem len_bodyN (z : Int) (c : UInt8) : (bodyB c (bodyN z)).length < 700 := by rw [len_body]; unfold bodyN; omega
set_option maxRecDepth 100000 in
/-- What a list of records has been grown by one. -/
theorem grown_one {w0 w w1 w2 : World} {OL OD : Nat → Prop} {g : Pl} {x : Part} {v : Value} (hg : Mine w0 w OL OD g) (hx : PQ w (fun k => w0.heap.size ≤ k ∧ ¬ (OL k ∨ OD k)) x) (hA : Adds w w1) (hv : w1.ownsRow 0 22 1 v (g.l.length + 1) (g.l.map PV ++ [PV x])) (hn : ∀ k, v.ownBlock = some k → w0.heap.size ≤ k ∧ ¬ (OL k ∨ OD k)) (h2 : w2 = w1) : ∃ a c, v = .slice a (g.l.length + 1) c ∧ Mine w0 w2 OL OD ⟨a, c, g.l ++ [x]⟩ := by
  subst h2
  obtain ⟨a, c, e, _, hac, hq⟩ := own_cq hv
  refine ⟨a, c, e, ⟨by rw [List.map_append]; exact hq.mono (fun k _ q => hn k q), hac, fun y hy => ?_⟩⟩
  rcases List.mem_append.1 hy with hy | hy
  · exact (hg.all y hy).adds hA
  · obtain rfl := List.mem_singleton.1 hy
    exact hx.adds hA
end Go.Proofs.YtllkplanjfnnmaaDoor

/- WalFull. -/
namespace Go.Proofs.YtllkplanjfnnmaaDoor
open Go.RowKit
abbrev L5 (R : List (List UInt8)) : LS := ⟨1, 5, 2, false, [], R⟩
set_option maxRecDepth 100000 in
theorem l5_texts {R : List (List UInt8)} (h : (L5 R).Ok) : (W.texts R).length ≤ 1165 := by
  by_cases hR : R = []
  · subst hR; exact Nat.zero_le _
  · have h1 : W.secs (W.gbytes R).length ≤ 5 := by have := h.wt hR; simpa [W.usedOf] using this
    have h2 := secs_len h1
    have h3 := texts_le R
    omega
set_option maxRecDepth 100000 in
theorem l5_app {R : List (List UInt8)} {bs : List UInt8} (hb : bs.length < 700) : (W.secs (W.gbytes (R ++ [bs])).length ≤ 5 → appE (L5 R) bs = 0 ∧ appL (L5 R) bs = L5 (R ++ [bs])) ∧ (¬ W.secs (W.gbytes (R ++ [bs])).length ≤ 5 → appE (L5 R) bs = 31 ∧ appL (L5 R) bs = L5 R) := by
  have hc : ¬ (L5 R).cl = true := by simp
  have hl : ¬ 4096 < bs.length := by omega
  refine ⟨fun h => ?_, fun h => ?_⟩
  · have e : appE (L5 R) bs = 0 := by rw [appE, if_neg hc, if_neg hl, if_pos (by simpa [W.usedOf] using h)]
    exact ⟨e, by rw [appL, if_pos e]⟩
  · have e : appE (L5 R) bs = 31 := by rw [appE, if_neg hc, if_neg hl, if_neg (by simpa [W.usedOf] using h)]
    exact ⟨e, by rw [appL, e]; rfl⟩
theorem full_lit (w : World) : (w.alloc (.cells #[] 22)).ownsRow 0 22 1 (.slice (some ⟨w.heap.size, 0, none⟩) 0 0) 0 [] := World.ownsRow_lit (base := 0) (e := 22) (size := 1) w #[] 0 (Nat.zero_le _) (by decide) rfl
set_option maxRecDepth 100000 in
theorem full_new {w3 w4 : World} {o : Obj} {v4 : Value} {n : Nat} {xs : List Value} (h : Grew (w3.alloc o) w4 22 (.slice (some ⟨w3.heap.size, 0, none⟩) 0 0) v4 n xs) : Adds w3 w4 ∧ ∀ j, v4.ownBlock = some j → w3.heap.size ≤ j := by
  refine ⟨((Touch.refl _ w3).alloc _).then h.touch (fun k hk c => ?_), h.lt (by simp) (fun j hj => by cases hj; exact Nat.le_refl _)⟩
  simp [Value.ownBlock] at c
  omega
set_option maxRecDepth 100000 in
theorem full_row {w3 w4 : World} {o o2 : Obj} {v4 : Value} {m : Nat} {xs : List Value} (h : Grew (w3.alloc o) w4 22 (.slice (some ⟨w3.heap.size, 0, none⟩) 0 0) v4 (0 + m) ([] ++ xs)) : (w4.alloc o2).ownsRow 0 22 1 v4 m xs := by
  have q := row_touch h.1 ((Touch.refl _ w4).alloc o2) (fun _ _ => id)
  rw [Nat.zero_add, List.nil_append] at q
  exact q
set_option maxRecDepth 100000 in
theorem full_next {w0 wr w3 w4 w5 : World} {OL OD : Nat → Prop} {l p m bl : Nat} {L : LS} {D : dSt} {g : Pl} {bs : List UInt8} {v4 v5 : Value} {o : Obj} (hW : Wl w0 w3 OL OD l p L D) (hG : Mine w0 w3 OL OD g) (hX : PQ w3 (fun k => w0.heap.size ≤ k ∧ ¬ (OL k ∨ OD k)) ⟨some ⟨wr.heap.size, 0, none⟩, bs, bs.length⟩) (hA : Adds w3 w4) (hN : ∀ j, v4.ownBlock = some j → w3.heap.size ≤ j) (hm : m = g.l.length) (hbl : bl = bs.length)
    (h5 : Grew (w4.alloc o) w5 22 v4 v5 (m + 1) (g.l.map PV ++ [.slice (some ⟨wr.heap.size, 0, none⟩) bl bl])) : ∃ na nc, v5 = .slice na (m + 1) nc ∧ Mine w0 w5 OL OD ⟨na, nc, g.l ++ [⟨some ⟨wr.heap.size, 0, none⟩, bs, bs.length⟩]⟩ ∧ Adds w3 w5 := by
  subst hm hbl
  have s4 := hA.size
  have s0 := hW.adds.size
  have hA5 : Adds w3 w5 := (hA.alloc o).then h5.touch (fun k hk c => by have := hN k c; omega)
  have hn5 := h5.lt (B := w3.heap.size) (by simp; omega) hN
  obtain ⟨a, c, e, hM⟩ := grown_one (w2 := w5) hG hX hA5 h5.1 (fun k hk => ⟨Nat.le_trans s0 (hn5 k hk), fun c => by have := hW.lt k c; have := hn5 k hk; omega⟩) rfl
  exact ⟨a, c, e, hM, hA5⟩
set_option maxRecDepth 100000 in
theorem full_bound {R : List (List UInt8)} {bs : List UInt8} (h : (L5 R).Ok) (hb : bs.length < 700) : (W.texts (R ++ [bs])).length ≤ 900000 := by
  have := l5_texts h
  have := M.len_enc10 (n := bs.length) (by omega)
  rw [W.texts_app, W.texts_one, W.text, List.length_append, List.length_append]
  omega
set_option maxRecDepth 100000 in
theorem full_sec {w0 w : World} {OL OD : Nat → Prop} {g : Pl} {na : Option Addr} {nc m sc : Nat} {x : Part} {R : List (List UInt8)} (hM : Mine w0 w OL OD ⟨na, nc, g.l ++ [x]⟩) (hm : m = g.l.length) (hR : R = g.bs ++ [x.bs]) (hsc : sc = W.secs (W.gbytes R).length) (hb : (W.texts R).length ≤ 900000) : Calls Tryd.prog 22 #[.slice na (m + 1) nc] w (Adding (.int .i64 (sc : Int)) w) := by
  have e : Pl.bs ⟨na, nc, g.l ++ [x]⟩ = R := by rw [hR]; simp [Pl.bs]
  have q := sectors8_any ⟨na, nc, g.l ++ [x]⟩ (m + 1) (by rw [hm]; simp) w hM (by rw [e]; exact hb)
  rw [e, ← hsc] at q
  exact q
set_option maxRecDepth 100000 in
theorem full_wait {w0 w : World} {OL OD : Nat → Prop} {l p : Nat} {R : List (List UInt8)} {D : dSt} {z : Int} (h : Wl w0 w OL OD l p (L5 R) D) (hz : z = (R.length : Int)) : Calls Tryd.prog 13 #[Ptr l] w (Tells (.int .i64 z) w) := by
  subst hz; exact wl_waiting h
abbrev LC (R : List (List UInt8)) : LS := ⟨1, 5, 2, false, [W.gbytes R], []⟩
def DC (R : List (List UInt8)) : dSt := (comR (L5 R) (dSt.new 6)).2
set_option maxRecDepth 100000 in
theorem com5 {R : List (List UInt8)} (hR : R ≠ []) : comE (L5 R) (dSt.new 6) = 0 ∧ comL (L5 R) (dSt.new 6) = LC R ∧ comD (L5 R) (dSt.new 6) = DC R := by
  have hr : (comR (L5 R) (dSt.new 6)).1 = 0 := by unfold comR; rw [goW_all (.inl rfl)]
  have hc : ¬ (L5 R).cl = true := by simp
  have hR' : ¬ (L5 R).R = [] := hR
  refine ⟨?_, ?_, ?_⟩
  · rw [comE, if_neg hc, if_neg hR', hr]
  · rw [comL, if_neg hc, if_neg hR', if_pos hr]; rfl
  · rw [comD, if_neg hc, if_neg hR']; rfl
set_option maxRecDepth 100000 in
theorem full_com {w0 w : World} {OL OD : Nat → Prop} {l p : Nat} {R : List (List UInt8)} (h : Wl w0 w OL OD l p (L5 R) (dSt.new 6)) (hk : (L5 R).Ok) (hR : R ≠ []) (hT : Tab w0) : Calls Tryd.prog 10 #[Ptr l] w (PWl w0 w OL OD l p (LC R) (DC R) (.int .i64 0)) := by
  have q := wl_commit h hk (dnew_ok 6 0 (by decide)) (by show 0 + 5 ≤ 800; decide) (by show ((1 : Nat) : Int) + ((5 : Nat) : Int) ≤ 6; decide) hT
  rw [(com5 hR).1, (com5 hR).2.1, (com5 hR).2.2] at q
  exact q
set_option maxRecDepth 100000 in
theorem full_idle {w0 w : World} {OL OD : Nat → Prop} {l p : Nat} {L : LS} {D : dSt} (h : Wl w0 w OL OD l p L D) (hc : L.cl = false) (hR : L.R = []) : Calls Tryd.prog 10 #[Ptr l] w (PWl w0 w OL OD l p L D (.int .i64 0)) := by
  obtain ⟨gv, tv, hs, q⟩ := h.log
  refine (commit_none l p w (cellOf q.box 0) (by rw [cellOf q.box 4, hc]; rfl) (by rw [cellOf q.box 7, hR]; rfl)).mono ?_
  rintro e w' ⟨rfl, hw⟩
  rw [hw]
  exact ⟨rfl, OL, OD, h, Touch.refl _ _, fun _ c => .inl c⟩
theorem full_com2 {w0 w : World} {OL OD : Nat → Prop} {l p : Nat} {R : List (List UInt8)} {D : dSt} (h : Wl w0 w OL OD l p (LC R) D) (_hT : Tab w0) : Calls Tryd.prog 10 #[Ptr l] w (PWl w0 w OL OD l p (LC R) D (.int .i64 0)) := full_idle h rfl rfl
theorem full_com0 {w0 w : World} {OL OD : Nat → Prop} {l p : Nat} {D : dSt} (h : Wl w0 w OL OD l p (L5 []) D) (_hT : Tab w0) : Calls Tryd.prog 10 #[Ptr l] w (PWl w0 w OL OD l p (L5 []) D (.int .i64 0)) := full_idle h rfl rfl
set_option maxRecDepth 100000 in
theorem lc_used (R : List (List UInt8)) : W.usedOf (LC R).G = W.secs (W.gbytes R).length := by simp [W.usedOf]
set_option maxRecDepth 100000 in
theorem full_used {w0 w : World} {OL OD : Nat → Prop} {l p sc : Nat} {R : List (List UInt8)} {D : dSt} (hs : sc = W.secs (W.gbytes R).length) (h : Wl w0 w OL OD l p (LC R) D) : Calls Tryd.prog 14 #[Ptr l] w (Tells (.int .i64 (sc : Int)) w) := by
  have q := wl_used h
  rw [lc_used, ← hs] at q
  exact q
set_option maxRecDepth 100000 in
theorem full_room {w0 w : World} {OL OD : Nat → Prop} {l p sc : Nat} {R : List (List UInt8)} {D : dSt} (hs : sc = W.secs (W.gbytes R).length) (h : Wl w0 w OL OD l p (LC R) D) (h5 : sc ≤ 5) : Calls Tryd.prog 15 #[Ptr l] w (Adding (.int .i64 (5 - (sc : Int))) w) := by
  obtain ⟨_, _, _, q⟩ := h.log
  have c6 : w.cell? ⟨l, 6, none⟩ = some (.int .i64 (sc : Int)) := by rw [cellOf q.box 6, lc_used, ← hs]; rfl
  exact lroom_any l 5 _ w (cellOf q.box 2) c6 (by omega) (by omega) (by omega)
theorem full_drop {w0 w : World} {OL OD : Nat → Prop} {l p : Nat} {R : List (List UInt8)} {D : dSt} (h : Wl w0 w OL OD l p (LC R) D) : Calls Tryd.prog 11 #[Ptr l] w (PWl w0 w OL OD l p (LC R) D (.int .i64 0)) := wl_drop h
set_option maxRecDepth 100000 in
set_option maxHeartbeats 8000000 in
theorem full8 (a : Option Addr) (n cap : Nat) (w : World) (hT : Tab w) (hI : NumsAt w a n) : Calls Tryd.prog 5 #[.slice a n cap] w (Adding (.bool true) w) := by
  have HB := hid (show Calls Tryd.prog 17 #[.int .i64 5] w (PBeg w 5) from began_any 5 (by decide) (by decide) w hT)
  have HW := hid (fun w' (hA : Adds w w') => works8 w' (hT.adds hA))
  have HI := hid hI
  have HT := hid hT
  clear hT hI
  go_enter Tryd.func5, Tryd.ntmps5
  go_wp2_with (first
    | (go_at_call 17; refine HB.out.mono ?_; rintro e w1 ⟨l, p, rfl, H1⟩; obtain ⟨OL1, OD1, h1⟩ := H1.out; have HW1 := hid (show Wl w w1 OL1 OD1 l p (L5 []) (dSt.new 6) from h1); clear h1 H1)
    | (go_at_call 16; refine (HW.out w1 HW1.out.adds).mono ?_; rintro e w2 ⟨rfl, hA2⟩; have HW2 := hid (HW1.out.add hA2); clear hA2))
  go_loopw [5, 6] (fun v i wr => ∃ (k : Nat) (g : Pl) (OL OD : Nat → Prop), k ≤ n ∧ k ≤ 40 ∧ i = .int .i64 (k : Int) ∧ v = .slice g.a g.l.length g.cap ∧ Hid (Wl w wr OL OD l p (L5 g.bs) (dSt.new 6) ∧ Mine w wr OL OD g ∧ (L5 g.bs).Ok)) (fun _ i _ => 40 - (intOf i).toNat)
  case atStart => exact ⟨0, ⟨none, 0, []⟩, OL1, OD1, Nat.zero_le _, by decide, rfl, rfl, HW2.out, ⟨CQ.nil _ _ _, fun _ => rfl, fun x hx => (by cases hx)⟩, ok0 5 (by decide)⟩
  case round =>
    obtain ⟨k, g, OL, OD, hkn, hk40, rfl, rfl, HR⟩ := hrel
    by_cases hlt : k < n ∧ k < 40
    · obtain ⟨b, o, z, rfl, hz⟩ := HI.out k hlt.1
      have hc : wr.cell? ⟨b, o + k, none⟩ = some (.int .i64 z) := below_adds HR.out.1.adds hz
      have h1 := hlt.1
      have h2 := hlt.2
      have d1 : decide (k < n) = true := by simpa using h1
      have d2 : decide ((k : Int) < 40) = true := by simp; omega
      obtain ⟨bs, hbs⟩ : ∃ bs, bs = bodyB (UInt8.ofNat k) (bodyN z) := ⟨_, rfl⟩
      have HBd := hid (show Calls Tryd.prog 19 #[.int .i64 z, .int .u8 (k : Int)] wr (PBody8 wr bs) by have q := body8_any z (UInt8.ofNat k) wr; rw [M.ofNat_toNat k (by omega), ← hbs] at q; exact q)
      have hbl : bs.length < 700 := by rw [hbs]; exact len_bodyN z _
      obtain ⟨bl, hbl2⟩ : ∃ bl, bl = bs.length := ⟨_, rfl⟩
      have HBL := hid (And.intro hbl hbl2)
      rw [← hbl2] at hbl
      obtain ⟨m, hm⟩ : ∃ m, m = g.l.length := ⟨_, rfl⟩
      have HM := hid hm
      have hm2 : m ≤ 2000 := by have q := l5_texts HR.out.2.2; have q2 := W.texts_len g.bs; have q3 : g.bs.length = m := by rw [Pl.bs, List.length_map, hm]
                                omega
      rw [← hm]
      obtain ⟨sc, hsc⟩ : ∃ sc, sc = W.secs (W.gbytes (g.bs ++ [bs])).length := ⟨_, rfl⟩
      have HSC := hid hsc
      clear hz hbs hbl2 hm hlt hsc
      by_cases hf : sc ≤ 5
      · have hf' : (sc : Int) ≤ 5 := by omega
        have HAp := hid (fun (w' : World) (h : Wl w w' OL OD l p (L5 g.bs) (dSt.new 6)) (hx : At w' (some ⟨wr.heap.size, 0, none⟩) bs) => show Calls Tryd.prog 9 #[Ptr l, .slice (some ⟨wr.heap.size, 0, none⟩) bl bl] w' (PWl w w' OL OD l p (L5 (g.bs ++ [bs])) (dSt.new 6) (.int .i64 0)) by
          have q := wl_append h HR.out.2.2 (some ⟨wr.heap.size, 0, none⟩) bs bl bl HBL.out.2.symm hx
          have e := (l5_app (R := g.bs) HBL.out.1).1 (by rw [← HSC.out]; exact hf)
          rw [e.1, e.2] at q
          exact q)
        have HZ := hid (show (m : Int) + 1 = ((g.bs ++ [bs]).length : Int) by rw [HM.out, List.length_append, Pl.bs, List.length_map]; simp)
        have HOk := hid (show (L5 (g.bs ++ [bs])).Ok by have q := HR.out.2.2.app bs; rw [((l5_app (R := g.bs) HBL.out.1).1 (by rw [← HSC.out]; exact hf)).2] at q; exact q)
        go_wp2_with (first
          | (go_at_call 19; refine HBd.out.mono ?_; rintro e w3 ⟨rfl, H3⟩; rw [← HBL.out.2]; have HX3 := hid (part_mine HR.out.1 H3.out); have HW3 := hid (HR.out.1.add H3.out.2); have HG3 := hid (HR.out.2.1.adds H3.out.2); have HO3 := hid (full_lit w3))
          | (at_builtin; refine append_b1 rfl _ _ rfl v4 m (g.l.map PV) rfl (full_row HG4.out) w4.heap.size (.slice (some ⟨wr.heap.size, 0, none⟩) bl bl) rfl (cellOf (heap_alloc_new w4 _) 0) rfl (by omega) ?_; intro v5 w5 G5; obtain ⟨na, nc, hv5, hM5, hA5⟩ := full_next HW3.out HG3.out HX3.out HA4.out.1 HA4.out.2 HM.out HBL.out.2 G5; subst hv5; have HW5 := hid (HW3.out.add hA5); have HM5 := hid hM5; have HG5 := hid (HG3.out.adds hA5); clear G5 hM5 hA5)
          | (at_builtin; refine append_bm rfl _ _ rfl (.slice (some ⟨w3.heap.size, 0, none⟩) 0 0) 0 [] rfl HO3.out g.a m g.cap (g.l.map PV) (by rw [List.length_map, ← HM.out]) rfl HG3.out.non (HG3.out.at_.adds ((Touch.refl _ w3).alloc _)) (one_PV g.l) (by omega) ?_; intro v4 w4 G4; have HG4 := hid G4; have HA4 := hid (full_new G4); clear G4 HO3)
          | (go_at_call 22; refine (full_sec HM5.out HM.out rfl HSC.out (full_bound HR.out.2.2 HBL.out.1)).mono ?_; rintro e w6 ⟨rfl, hA6⟩; have HW6 := hid (HW5.out.add hA6); have HM6 := hid (HM5.out.adds hA6); have HG6 := hid (HG5.out.adds hA6); have HX6 := hid (show At w6 (some ⟨wr.heap.size, 0, none⟩) bs from ((HM6.out.all _ (List.mem_append.2 (.inr (List.mem_singleton.2 rfl)))).at_.at)); clear hA6)
          | (go_at_call 9; refine (HAp.out w6 HW6.out HX6.out).mono ?_; rintro e w7 ⟨rfl, H7⟩; obtain ⟨OL7, OD7, h7, t7, n7⟩ := H7.out; have HW7 := hid h7; have HM7 := hid (HM6.out.next t7 n7); have HG7 := hid (HG6.out.next t7 n7); clear h7 t7 n7 H7)
          | (go_at_call 13; refine (full_wait (z := (m : Int) + 1) HW7.out HZ.out).mono ?_; rintro e _ ⟨rfl, hw⟩; rw [hw]; clear hw)
          | (go_at_call 14; refine (show Calls Tryd.prog 14 #[Ptr l] w7 (Tells (.int .i64 0) w7) from wl_used HW7.out).mono ?_; rintro e _ ⟨rfl, hw⟩; rw [hw]; clear hw)
          | (go_at_call 23; refine (show Calls Tryd.prog 23 #[Ptr p] w7 (Tells (.int .i64 0) w7) from wl_steps HW7.out (by decide)).mono ?_; rintro e _ ⟨rfl, hw⟩; rw [hw]; clear hw))
        go_roundw
        case rel => exact ⟨k + 1, ⟨na, nc, g.l ++ [⟨some ⟨wr.heap.size, 0, none⟩, bs, bs.length⟩]⟩, OL7, OD7, by omega, by omega, by go_num, by rw [HM.out]; simp, by rw [show Pl.bs ⟨na, nc, g.l ++ [⟨some ⟨wr.heap.size, 0, none⟩, bs, bs.length⟩]⟩ = g.bs ++ [bs] by simp [Pl.bs]]; exact ⟨HW7.out, HM7.out, HOk.out⟩⟩
        case measure => simp [intOf]; omega
      · have hf' : ¬ (sc : Int) ≤ 5 := by omega
        have HAp := hid (fun (w' : World) (h : Wl w w' OL OD l p (L5 g.bs) (dSt.new 6)) (hx : At w' (some ⟨wr.heap.size, 0, none⟩) bs) => show Calls Tryd.prog 9 #[Ptr l, .slice (some ⟨wr.heap.size, 0, none⟩) bl bl] w' (PWl w w' OL OD l p (L5 g.bs) (dSt.new 6) (.int .i64 31)) by
          have q := wl_append h HR.out.2.2 (some ⟨wr.heap.size, 0, none⟩) bs bl bl HBL.out.2.symm hx
          have e := (l5_app (R := g.bs) HBL.out.1).2 (by rw [← HSC.out]; exact hf)
          rw [e.1, e.2] at q
          exact q)
        have HZ := hid (show (m : Int) = (g.bs.length : Int) by rw [HM.out, Pl.bs, List.length_map])
        go_wp2_with (first
          | (go_at_call 19; refine HBd.out.mono ?_; rintro e w3 ⟨rfl, H3⟩; rw [← HBL.out.2]; have HX3 := hid (part_mine HR.out.1 H3.out); have HW3 := hid (HR.out.1.add H3.out.2); have HG3 := hid (HR.out.2.1.adds H3.out.2); have HO3 := hid (full_lit w3))
          | (at_builtin; refine append_b1 rfl _ _ rfl v4 m (g.l.map PV) rfl (full_row HG4.out) w4.heap.size (.slice (some ⟨wr.heap.size, 0, none⟩) bl bl) rfl (cellOf (heap_alloc_new w4 _) 0) rfl (by omega) ?_; intro v5 w5 G5; obtain ⟨na, nc, hv5, hM5, hA5⟩ := full_next HW3.out HG3.out HX3.out HA4.out.1 HA4.out.2 HM.out HBL.out.2 G5; subst hv5; have HW5 := hid (HW3.out.add hA5); have HM5 := hid hM5; have HG5 := hid (HG3.out.adds hA5); clear G5 hM5 hA5)
          | (at_builtin; refine append_bm rfl _ _ rfl (.slice (some ⟨w3.heap.size, 0, none⟩) 0 0) 0 [] rfl HO3.out g.a m g.cap (g.l.map PV) (by rw [List.length_map, ← HM.out]) rfl HG3.out.non (HG3.out.at_.adds ((Touch.refl _ w3).alloc _)) (one_PV g.l) (by omega) ?_; intro v4 w4 G4; have HG4 := hid G4; have HA4 := hid (full_new G4); clear G4 HO3)
          | (go_at_call 22; refine (full_sec HM5.out HM.out rfl HSC.out (full_bound HR.out.2.2 HBL.out.1)).mono ?_; rintro e w6 ⟨rfl, hA6⟩; have HW6 := hid (HW5.out.add hA6); have HM6 := hid (HM5.out.adds hA6); have HG6 := hid (HG5.out.adds hA6); have HX6 := hid (show At w6 (some ⟨wr.heap.size, 0, none⟩) bs from ((HM6.out.all _ (List.mem_append.2 (.inr (List.mem_singleton.2 rfl)))).at_.at)); clear hA6)
          | (go_at_call 9; refine (HAp.out w6 HW6.out HX6.out).mono ?_; rintro e w7 ⟨rfl, H7⟩; obtain ⟨OL7, OD7, h7, t7, n7⟩ := H7.out; have HW7 := hid h7; have HM7 := hid (HM6.out.next t7 n7); have HG7 := hid (HG6.out.next t7 n7); clear h7 t7 n7 H7)
          | (go_at_call 13; refine (full_wait (z := (m : Int)) HW7.out HZ.out).mono ?_; rintro e _ ⟨rfl, hw⟩; rw [hw]; clear hw)
          | (go_at_call 14; refine (show Calls Tryd.prog 14 #[Ptr l] w7 (Tells (.int .i64 0) w7) from wl_used HW7.out).mono ?_; rintro e _ ⟨rfl, hw⟩; rw [hw]; clear hw)
          | (go_at_call 23; refine (show Calls Tryd.prog 23 #[Ptr p] w7 (Tells (.int .i64 0) w7) from wl_steps HW7.out (by decide)).mono ?_; rintro e _ ⟨rfl, hw⟩; rw [hw]; clear hw))
        go_roundw
        case rel => exact ⟨k + 1, g, OL7, OD7, by omega, by omega, by go_num, by rw [HM.out], HW7.out, HG7.out, HR.out.2.2⟩
        case measure => simp [intOf]; omega
    · have hk2 : ¬ k < n ∨ ¬ k < 40 := by omega
      obtain ⟨m, hm⟩ : ∃ m, m = g.l.length := ⟨_, rfl⟩
      have HM := hid hm
      rw [← hm]
      by_cases h0 : m = 0
      · have hl0 : g.l = [] := List.eq_nil_of_length_eq_zero (by rw [← hm]; exact h0)
        have hg0 : g.bs = [] := by rw [Pl.bs, hl0]; rfl
        have HRn := hid (show Wl w wr OL OD l p (L5 []) (dSt.new 6) by have q := HR.out.1; rw [hg0] at q; exact q)
        have h0' : ¬ (0 : Int) < (m : Int) := by omega
        clear hm hg0 hl0
        by_cases hkn2 : k < n
        · have d1 : decide (k < n) = true := by simpa using hkn2
          have d2 : decide ((k : Int) < 40) = false := by simp; omega
          go_wp2_with (first
            | (go_at_call 10; refine (full_com0 HW11.out HT.out).mono ?_; rintro e w12 ⟨rfl, H12⟩; obtain ⟨OL12, OD12, h12, _, _⟩ := H12.out; have HW12 := hid h12; clear h12 H12)
            | (go_at_call 10; refine (full_com0 HRn.out HT.out).mono ?_; rintro e w8 ⟨rfl, H8⟩; obtain ⟨OL8, OD8, h8, _, _⟩ := H8.out; have HW9 := hid h8; clear h8 H8)
            | (go_at_call 14; refine (show Calls Tryd.prog 14 #[Ptr l] w8 (Tells (.int .i64 0) w8) from wl_used HW9.out).mono ?_; rintro e _ ⟨rfl, hw⟩; rw [hw]; clear hw)
            | (go_at_call 15; refine (show Calls Tryd.prog 15 #[Ptr l] w8 (Adding (.int .i64 5) w8) from wl_room HW9.out (ok0 5 (by decide))).mono ?_; rintro e w10 ⟨rfl, hA10⟩; have HW10 := hid (HW9.out.add hA10); clear hA10)
            | (go_at_call 11; refine (show Calls Tryd.prog 11 #[Ptr l] w10 (PWl w w10 OL8 OD8 l p (L5 []) (dSt.new 6) (.int .i64 0)) from wl_drop HW10.out).mono ?_; rintro e w11 ⟨rfl, H11⟩; obtain ⟨OL11, OD11, h11, _, _⟩ := H11.out; have HW11 := hid h11; clear h11 H11)
            | (go_at_call 13; refine (show Calls Tryd.prog 13 #[Ptr l] w11 (Tells (.int .i64 0) w11) from wl_waiting HW11.out).mono ?_; rintro e _ ⟨rfl, hw⟩; rw [hw]; clear hw))
          go_ret
          exact ⟨rfl, HW12.out.adds⟩
        · have d1 : decide (k < n) = false := by simpa using hkn2
          go_wp2_with (first
            | (go_at_call 10; refine (full_com0 HW11.out HT.out).mono ?_; rintro e w12 ⟨rfl, H12⟩; obtain ⟨OL12, OD12, h12, _, _⟩ := H12.out; have HW12 := hid h12; clear h12 H12)
            | (go_at_call 10; refine (full_com0 HRn.out HT.out).mono ?_; rintro e w8 ⟨rfl, H8⟩; obtain ⟨OL8, OD8, h8, _, _⟩ := H8.out; have HW9 := hid h8; clear h8 H8)
            | (go_at_call 14; refine (show Calls Tryd.prog 14 #[Ptr l] w8 (Tells (.int .i64 0) w8) from wl_used HW9.out).mono ?_; rintro e _ ⟨rfl, hw⟩; rw [hw]; clear hw)
            | (go_at_call 15; refine (show Calls Tryd.prog 15 #[Ptr l] w8 (Adding (.int .i64 5) w8) from wl_room HW9.out (ok0 5 (by decide))).mono ?_; rintro e w10 ⟨rfl, hA10⟩; have HW10 := hid (HW9.out.add hA10); clear hA10)
            | (go_at_call 11; refine (show Calls Tryd.prog 11 #[Ptr l] w10 (PWl w w10 OL8 OD8 l p (L5 []) (dSt.new 6) (.int .i64 0)) from wl_drop HW10.out).mono ?_; rintro e w11 ⟨rfl, H11⟩; obtain ⟨OL11, OD11, h11, _, _⟩ := H11.out; have HW11 := hid h11; clear h11 H11)
            | (go_at_call 13; refine (show Calls Tryd.prog 13 #[Ptr l] w11 (Tells (.int .i64 0) w11) from wl_waiting HW11.out).mono ?_; rintro e _ ⟨rfl, hw⟩; rw [hw]; clear hw))
          go_ret
          exact ⟨rfl, HW12.out.adds⟩
      · have HR0 := hid (show g.bs ≠ [] from fun e => h0 (by rw [hm, ← List.length_map (f := (·.bs)), show g.l.map (·.bs) = [] from e]; rfl))
        have h0' : (0 : Int) < (m : Int) := by omega
        obtain ⟨sc, hsc⟩ : ∃ sc, sc = W.secs (W.gbytes g.bs).length := ⟨_, rfl⟩
        have hsc5 : sc ≤ 5 := by rw [hsc]; have q := HR.out.2.2.wt HR0.out; simpa [W.usedOf] using q
        have HSC := hid hsc
        have HSe := hid (fun (w' : World) (Q : Nat → Prop) (h' : GQ w' Q g) => show Calls Tryd.prog 22 #[.slice g.a m g.cap] w' (Adding (.int .i64 (sc : Int)) w') by rw [hsc]; exact sectors8_any g m hm.symm w' h' (by have := l5_texts HR.out.2.2; omega))
        clear hm hsc
        by_cases hkn2 : k < n
        · have d1 : decide (k < n) = true := by simpa using hkn2
          have d2 : decide ((k : Int) < 40) = false := by simp; omega
          go_wp2_with (first
            | (go_at_call 10; refine (full_com2 HW11.out HT.out).mono ?_; rintro e w12 ⟨rfl, H12⟩; obtain ⟨OL12, OD12, h12, _, _⟩ := H12.out; have HW12 := hid h12; clear h12 H12)
            | (go_at_call 10; refine (full_com HR.out.1 HR.out.2.2 HR0.out HT.out).mono ?_; rintro e w8 ⟨rfl, H8⟩; obtain ⟨OL8, OD8, h8, t8, n8⟩ := H8.out; have HW8 := hid h8; have HM8 := hid (HR.out.2.1.next t8 n8); clear h8 t8 n8 H8)
            | (go_at_call 14; refine (full_used HSC.out HW9.out).mono ?_; rintro e _ ⟨rfl, hw⟩; rw [hw]; clear hw)
            | (go_at_call 14; refine (full_used HSC.out HW8.out).mono ?_; rintro e _ ⟨rfl, hw⟩; rw [hw]; clear hw)
            | (go_at_call 22; refine (show Calls Tryd.prog 22 #[.slice g.a m g.cap] w8 (Adding (.int .i64 (sc : Int)) w8) from HSe.out w8 _ HM8.out).mono ?_; rintro e w9 ⟨rfl, hA9⟩; have HW9 := hid (HW8.out.add hA9); clear hA9)
            | (go_at_call 15; refine (full_room HSC.out HW9.out hsc5).mono ?_; rintro e w10 ⟨rfl, hA10⟩; have HW10 := hid (HW9.out.add hA10); clear hA10)
            | (go_at_call 11; refine (full_drop HW10.out).mono ?_; rintro e w11 ⟨rfl, H11⟩; obtain ⟨OL11, OD11, h11, _, _⟩ := H11.out; have HW11 := hid h11; clear h11 H11)
            | (go_at_call 13; refine (show Calls Tryd.prog 13 #[Ptr l] w11 (Tells (.int .i64 0) w11) from wl_waiting HW11.out).mono ?_; rintro e _ ⟨rfl, hw⟩; rw [hw]; clear hw))
          go_ret
          exact ⟨rfl, HW12.out.adds⟩
        · have d1 : decide (k < n) = false := by simpa using hkn2
          go_wp2_with (first
            | (go_at_call 10; refine (full_com2 HW11.out HT.out).mono ?_; rintro e w12 ⟨rfl, H12⟩; obtain ⟨OL12, OD12, h12, _, _⟩ := H12.out; have HW12 := hid h12; clear h12 H12)
            | (go_at_call 10; refine (full_com HR.out.1 HR.out.2.2 HR0.out HT.out).mono ?_; rintro e w8 ⟨rfl, H8⟩; obtain ⟨OL8, OD8, h8, t8, n8⟩ := H8.out; have HW8 := hid h8; have HM8 := hid (HR.out.2.1.next t8 n8); clear h8 t8 n8 H8)
            | (go_at_call 14; refine (full_used HSC.out HW9.out).mono ?_; rintro e _ ⟨rfl, hw⟩; rw [hw]; clear hw)
            | (go_at_call 14; refine (full_used HSC.out HW8.out).mono ?_; rintro e _ ⟨rfl, hw⟩; rw [hw]; clear hw)
            | (go_at_call 22; refine (show Calls Tryd.prog 22 #[.slice g.a m g.cap] w8 (Adding (.int .i64 (sc : Int)) w8) from HSe.out w8 _ HM8.out).mono ?_; rintro e w9 ⟨rfl, hA9⟩; have HW9 := hid (HW8.out.add hA9); clear hA9)
            | (go_at_call 15; refine (full_room HSC.out HW9.out hsc5).mono ?_; rintro e w10 ⟨rfl, hA10⟩; have HW10 := hid (HW9.out.add hA10); clear hA10)
            | (go_at_call 11; refine (full_drop HW10.out).mono ?_; rintro e w11 ⟨rfl, H11⟩; obtain ⟨OL11, OD11, h11, _, _⟩ := H11.out; have HW11 := hid h11; clear h11 H11)
            | (go_at_call 13; refine (show Calls Tryd.prog 13 #[Ptr l] w11 (Tells (.int .i64 0) w11) from wl_waiting HW11.out).mono ?_; rintro e _ ⟨rfl, hw⟩; rw [hw]; clear hw))
          go_ret
          exact ⟨rfl, HW12.out.adds⟩
end Go.Proofs.YtllkplanjfnnmaaDoor
