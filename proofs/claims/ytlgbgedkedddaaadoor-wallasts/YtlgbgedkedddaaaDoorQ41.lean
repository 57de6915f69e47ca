/- Texts put together: WRef, WFull0. -/
import Derived.Test.YtlgbgedkedddaaaDoorQ37
/- The reference's bytes of a group, and how many sectors they have. -/
namespace Go.Proofs.YtlgbgedkedddaaaDoor
open Go.RowKit

set_option maxRecDepth 100000 in
theorem append_bm {w : World} {ops : Array Oper} {rest : List Oper} {o : Oper} {act : Act} {Q : Exit → Act → World → Prop} {Q' : Nat → Prop} (hgd : o.guard = none) (s x : Operand)
    (ho : o.op = .call { callee := .builtin .append, args := #[s, x], argTypes := #[33, 33] }) (v : Value) (n : Nat) (xs : List Value) (hs : act.eval s = v) (hown : w.ownsRow 0 22 1 v n xs)
    (a : Option Addr) (m cap : Nat) (news : List Value) (hm : news.length = m) (hx : act.eval x = .slice a m cap) (hcap : a = none → cap = 0) (hA : CQ w Q' a news) (h1 : ∀ u ∈ news, u.oneCell' = true) (hlen : n + m ≤ 10000000)
    (h : ∀ v' w', Grew w w' 22 v v' (n + m) (xs ++ news) → wpList Tryd.prog ops Q rest (act.put o.dst v') w') : wpList Tryd.prog ops Q (o :: rest) act w := by
  obtain ⟨i0, hi, hz0, hz1, hz2⟩ := infoB
  cases a with
  | none =>
    obtain rfl := hcap rfl
    obtain rfl : news = [] := by
      cases news with
      | nil => rfl
      | cons u l => obtain ⟨b, o', e, _⟩ := hA 0 u rfl; cases e
    obtain rfl : m = 0 := by rw [← hm]; rfl
    exact wpList_append_own_none hgd s x 33 ho 0 22 i0 1 Tryd.underlying33 hi v n xs hs hown hx (h v w ⟨by simpa using hown, ⟨rfl, rfl, rfl, Nat.le_refl _, fun _ _ _ => rfl⟩, .inl rfl⟩)
  | some ad =>
    refine wpList_append_own_at _ hgd s x 33 ho 0 22 i0 (.slice none 0 0) 1 24 Tryd.underlying33 hi hz0 hz1 hz2 rfl (by decide) v n xs hs hown ad m cap news hx (by omega) ?_ h1 (by unfold maxLen; omega) (by omega) (Nat.zero_le _) (fun v' w' g1 g2 _ g4 => h v' w' ⟨g1, g2, g4⟩)
    intro j y hj
    obtain ⟨b, o', e, _, hc⟩ := hA j y hj
    obtain rfl : ad = ⟨b, o', none⟩ := by simpa using e
    rw [Addr.add_mid]; exact hc
set_option maxRecDepth 100000 in
theorem one_PV (l : List Part) : ∀ u ∈ l.map PV, u.oneCell' = true := by
  intro u hu
  obtain ⟨x, _, rfl⟩ := List.mem_map.1 hu
  rfl
set_option maxRecDepth 100000 in
theorem texts_take {ls : List (List UInt8)} {k : Nat} {x : List UInt8} (h : ls[k]? = some x) : W.texts (ls.take (k + 1)) = W.texts (ls.take k) ++ W.text x := by
  rw [List.take_add_one, h, Option.toList_some, W.texts_app, W.texts_one]
set_option maxRecDepth 100000 in
theorem texts_mono (ls : List (List UInt8)) (k : Nat) : (W.texts (ls.take k)).length ≤ (W.texts ls).length := by
  have : W.texts ls = W.texts (ls.take k) ++ W.texts (ls.drop k) := by rw [← W.texts_app, List.take_append_drop]
  rw [this, List.length_append]; omega
set_option maxRecDepth 100000 in
set_option maxHeartbeats 2000000 in
theorem bytes8_any {Q : Nat → Prop} (g : Pl) (n : Nat) (hn : g.l.length = n) (w : World) (hG : GQ w Q g) (hl : (W.texts g.bs).length ≤ 900000) : Calls Tryd.prog 40 #[.slice g.a n g.cap] w (POwn w (W.full (W.gbytes g.bs))) := by
  have hnl : n ≤ 900000 := by have h1 := W.texts_len g.bs; have h2 : g.bs.length = n := by rw [Pl.bs, List.length_map, hn]
                              omega
  have HU := hid (ruintp_any n (by omega) w)
  have HD := hid (show ∀ k, k < n → ∃ x : Part, g.bs[k]? = some x.bs ∧ x.bs.length ≤ 900000 ∧ PQ w Q x ∧ ∃ b o, g.a = some ⟨b, o, none⟩ ∧ w.cell? ⟨b, o + k, none⟩ = some (.slice x.a x.bs.length x.cap) from fun k hk => by
    have hx : g.l[k]? = some (g.l[k]'(by omega)) := List.getElem?_eq_getElem (by omega)
    obtain ⟨b, o, e, _, hc⟩ := hG.at_ k (PV (g.l[k]'(by omega))) (by rw [List.getElem?_map, hx]; rfl)
    have hm : (g.l[k]'(by omega)) ∈ g.l := List.getElem_mem _
    refine ⟨_, by rw [Pl.bs, List.getElem?_map, hx]; rfl, ?_, hG.all _ hm, b, o, e, hc⟩
    have : (g.l[k]'(by omega)).bs ∈ g.bs := List.mem_map_of_mem hm
    have := W.texts_mem this
    omega)
  obtain ⟨el, hel⟩ : ∃ el, el = (M.enc n).length := ⟨_, rfl⟩
  have hel2 : el ≤ 10 := by rw [hel]; exact M.len_enc10 (by omega)
  have HE := hid hel
  have HGB := hid (show W.gbytes g.bs = M.enc n ++ W.texts g.bs by rw [W.gbytes, Pl.bs, List.length_map, hn])
  have HL := hid hl
  have HN := hid (show g.bs.length = n by rw [Pl.bs, List.length_map, hn])
  have HT := hid (fun (w' : World) (ts : List UInt8) (ht : ts.length ≤ 900000) => rtextp_any ts (by omega) w')
  have HF := hid (fun (w' : World) (m : Nat) (hm : m ≤ 1000000) => show Calls Tryd.prog 60 #[.int .u64 (m : Int), .int .i64 4] w' (POwn w' (M.fix m 4)) from rfixedp_any m (by omega) 4 w')
  clear hG hl hel
  generalize g.a = ga at *
  go_enter Tryd.func40, Tryd.ntmps40
  go_wp2_with (first
    | (go_at_call 58; refine HU.out.mono ?_; rintro e w1 ⟨v1, rfl, o1, A1⟩; have H1 := hid (And.intro o1 A1); clear o1 A1))
  go_loopw [3, 4] (fun v i wr => ∃ k : Nat, k ≤ n ∧ i = .int .i64 (k : Int) ∧ Hid (wr.ownsRow 0 5 1 v (M.enc n ++ W.texts (g.bs.take k)).length (S (M.enc n ++ W.texts (g.bs.take k))) ∧ (∀ j, v.ownBlock = some j → w.heap.size ≤ j) ∧ Adds w wr)) (fun _ i _ => n - (intOf i).toNat)
  case atStart => exact ⟨0, Nat.zero_le _, rfl, by simpa [W.texts] using row_base (C := 0) H1.out.1 (fun _ _ => Nat.zero_le _), fun j hj => (row_low H1.out.1 hj).1, H1.out.2⟩
  case round =>
    obtain ⟨k, hk, rfl, HI⟩ := hrel
    by_cases hlt : k < n
    · obtain ⟨x, hx, hxl, hxq, b, o, rfl, hxc⟩ := HD.out k hlt
      have hc : wr.cell? ⟨b, o + k, none⟩ = some (.slice x.a x.bs.length x.cap) := below_adds HI.out.2.2 hxc
      have hcv := conv_at wr x.a x.bs x.cap (hxq.at_.at.adds HI.out.2.2)
      have HX := hid (HT.out wr x.bs hxl)
      have HXX := hid hx
      have hk1 := texts_mono g.bs k
      obtain ⟨m, hm⟩ : ∃ m, m = (M.enc n ++ W.texts (g.bs.take k)).length := ⟨_, rfl⟩
      have hm2 : m ≤ 900010 := by rw [hm, List.length_append, ← HE.out]; have := HL.out; omega
      have HM := hid (show wr.ownsRow 0 5 1 u3 m (S (M.enc n ++ W.texts (g.bs.take k))) by rw [hm]; exact HI.out.1)
      have HMM := hid hm
      clear hx hxq hxc HD hk1 hm
      go_wp2_with (first
        | (go_at_call 59; refine HX.out.mono ?_; rintro e w2 ⟨v2, rfl, o2, A2⟩; obtain ⟨ea, ec, hv2, q1, q2, q3⟩ := own_cq o2
           obtain ⟨eb, eo, hea⟩ := q3.at.ad (W.text_pos x.bs)
           subst hea
           obtain ⟨tl, htl⟩ : ∃ tl, tl = (M.enc x.bs.length ++ x.bs).length := ⟨_, rfl⟩
           have htl2 : tl ≤ 900010 := by rw [htl, List.length_append]; have := M.len_enc10 (n := x.bs.length) (by omega); omega
           rw [← htl] at hv2
           subst hv2
           have H2 := hid (And.intro q3.at (And.intro A2 (And.intro htl (row_touch HM.out A2 (fun _ _ => id)))))
           clear o2 A2 q1 q2 q3 htl)
        | (at_builtin; refine append_t rfl _ _ rfl u3 m (S (M.enc n ++ W.texts (g.bs.take k))) rfl H2.out.2.2.2 ⟨eb, eo, none⟩ (M.enc x.bs.length ++ x.bs) tl ec H2.out.2.2.1.symm rfl H2.out.1 (by omega) ?_; intro v3 w3 G3; have HG := hid G3; clear G3))
      go_roundw
      case rel =>
        have hG := HG.out
        have e1 : M.enc n ++ W.texts (g.bs.take (k + 1)) = (M.enc n ++ W.texts (g.bs.take k)) ++ (M.enc x.bs.length ++ x.bs) := by rw [texts_take HXX.out, List.append_assoc]; rfl
        have hs2 := H2.out.2.1.size
        have hs0 := HI.out.2.2.size
        refine ⟨k + 1, by omega, by go_num, ?_, hG.lt (by omega) HI.out.2.1, (HI.out.2.2.trans H2.out.2.1).then hG.touch (fun j hj c => by have := HI.out.2.1 j c; omega)⟩
        rw [e1, List.length_append, S_append, ← HMM.out, ← H2.out.2.2.1]
        exact hG.1
      case measure => simp [intOf]; omega
    · obtain rfl : k = n := by omega
      have e0 : M.enc k ++ W.texts (g.bs.take k) = W.gbytes g.bs := by rw [HGB.out, List.take_of_length_le (by rw [HN.out]; exact Nat.le_refl _)]
      obtain ⟨m, hm⟩ : ∃ m, m = (W.gbytes g.bs).length := ⟨_, rfl⟩
      have hm2 : m ≤ 900010 := by rw [hm, HGB.out, List.length_append, ← HE.out]; have := HL.out; omega
      have HM := hid (show wr.ownsRow 0 5 1 u3 m (S (W.gbytes g.bs)) by have q := HI.out.1; rw [e0, ← hm] at q; exact q)
      obtain ⟨ba, bc, hu3, hbc, hba, hbq⟩ := own_cq HM.out
      have hpos : 0 < (W.gbytes g.bs).length := by rw [HGB.out, List.length_append]; have := W.enc_pos k; omega
      obtain ⟨bb, bo, hbb⟩ := hbq.at.ad hpos
      subst hbb
      subst hu3
      have HB := hid hbq.at
      have HX := hid (HF.out wr m (by omega))
      have HMM := hid hm
      clear e0 hbq hba hm hpos
      go_wp2_with (first
        | (go_at_call 60; refine HX.out.mono ?_; rintro e w2 ⟨v2, rfl, o2, A2⟩; rw [M.len_fix] at o2; have H2 := hid (And.intro o2 A2); clear o2 A2)
        | (at_builtin; refine append_t rfl _ _ rfl v2 4 (S (M.fix m 4)) rfl (row_base H2.out.1 (fun _ _ => Nat.zero_le _)) ⟨bb, bo, none⟩ (W.gbytes g.bs) m bc HMM.out.symm rfl (HB.out.adds H2.out.2) (by omega) ?_; intro v3 w3 G3; have HG := hid G3; clear G3))
      go_ret
      have hG := HG.out
      have hs0 := HI.out.2.2.size
      have hs2 := H2.out.2.size
      refine ⟨_, rfl, ?_, (HI.out.2.2.trans H2.out.2).then hG.touch (fun j hj c => by have := (row_low H2.out.1 c).1; omega)⟩
      have e2 : (W.full (W.gbytes g.bs)).length = 4 + m := by rw [W.len_full, HMM.out]
      have e3 : S (W.full (W.gbytes g.bs)) = S (M.fix m 4) ++ S (W.gbytes g.bs) := by rw [W.full, S_append, HMM.out]
      rw [e2, e3]
      exact row_base hG.1 (hG.lt (by omega) (fun j hj => by have := (row_low H2.out.1 hj).1; omega))
set_option maxRecDepth 100000 in
theorem sectors8_any {Q : Nat → Prop} (g : Pl) (n : Nat) (hn : g.l.length = n) (w : World) (hG : GQ w Q g) (hl : (W.texts g.bs).length ≤ 900000) : Calls Tryd.prog 22 #[.slice g.a n g.cap] w (Adding (.int .i64 (W.secs (W.gbytes g.bs).length : Int)) w) := by
  have H := hid (bytes8_any g n hn w hG hl)
  obtain ⟨m, hm⟩ : ∃ m, m = (W.gbytes g.bs).length := ⟨_, rfl⟩
  have hm2 : m ≤ 1000000 := by
    rw [hm, W.gbytes, List.length_append]
    have := M.len_enc10 (n := g.bs.length) (by have := W.texts_len g.bs; omega)
    omega
  have HS := hid (show (W.secs m : Int) = (4 + (m : Int) + 232) / 233 by unfold W.secs; omega)
  have HM := hid hm
  rw [← hm]
  clear hm hG hl
  go_enter Tryd.func22, Tryd.ntmps22
  go_wp2_with (first | (go_at_call 40; refine H.out.mono ?_; rintro e w1 ⟨v1, rfl, o1, A1⟩; rw [W.len_full, ← HM.out] at o1; obtain ⟨va, vc, hv, _, _, _⟩ := own_cq o1; subst hv; have H1 := hid A1; clear A1 o1))
  go_ret
  refine ⟨?_, H1.out⟩
  rw [HS.out]
  go_num
end Go.Proofs.YtlgbgedkedddaaaDoor

/- A group is taken just as long as its pieces have sectors. -/
namespace Go.Proofs.YtlgbgedkedddaaaDoor
open Go.RowKit

/-- Where numbers lie. -/
def NumsAt (w : World) (a : Option Addr) (n : Nat) : Prop := ∀ j, j < n → ∃ b o z, a = some ⟨b, o, none⟩ ∧ w.cell? ⟨b, o + j, none⟩ = some (.int .i64 z)
/-- A law's list of records: of no log, and new. -/
def Mine (w0 w : World) (OL OD : Nat → Prop) (g : Pl) : Prop := GQ w (fun k => w0.heap.size ≤ k ∧ ¬ (OL k ∨ OD k)) g
theorem Mine.next {w0 w w' : World} {OL OD OL' OD' : Nat → Prop} {g : Pl} (h : Mine w0 w OL OD g) (hT : Touch (fun k => OL k ∨ OD k) w w') (hn : ∀ k, OL' k ∨ OD' k → (OL k ∨ OD k) ∨ w.heap.size ≤ k) : Mine w0 w' OL' OD' g :=
  (h.mono (Q' := fun k => (w0.heap.size ≤ k ∧ ¬ (OL k ∨ OD k)) ∧ ¬ (OL' k ∨ OD' k)) (fun k hk q => ⟨q, fun c => by rcases hn k c with c | c; exact q.2 c; omega⟩)).touch hT (fun k q => q.1.2) |>.mono (fun k _ q => ⟨q.1.1, q.2⟩)
theorem Mine.adds {w0 w w' : World} {OL OD : Nat → Prop} {g : Pl} (h : Mine w0 w OL OD g) (hA : Adds w w') : Mine w0 w' OL OD g := GQ.adds h hA
/-- New memory is of no log. -/
theorem Fresh.mine {w0 w w' : World} {OL OD : Nat → Prop} {l p : Nat} {L : LS} {D : dSt} {a : Option Addr} {c : Nat} {hs : List Part} (hW : Wl w0 w OL OD l p L D) (h : GQ w' (fun k => w.heap.size ≤ k) ⟨a, c, hs⟩) : Mine w0 w' OL OD ⟨a, c, hs⟩ :=
  GQ.mono h (fun k _ q => ⟨Nat.le_trans hW.adds.size q, fun c => by have := hW.lt k c; omega⟩)
set_option maxRecDepth 100000 in
theorem part_mine {w0 w w' : World} {OL OD : Nat → Prop} {l p : Nat} {L : LS} {D : dSt} {bs : List UInt8} (hW : Wl w0 w OL OD l p L D) (h : w'.heap[w.heap.size]? = some (.cells (S bs).toArray 5 (0, 0)) ∧ Adds w w') : PQ w' (fun k => w0.heap.size ≤ k ∧ ¬ (OL k ∨ OD k)) ⟨some ⟨w.heap.size, 0, none⟩, bs, bs.length⟩ := by
  refine ⟨fun j u hj => ⟨w.heap.size, 0, rfl, ⟨hW.adds.size, fun c => by have := hW.lt _ c; omega⟩, ?_⟩, fun e => by cases e⟩
  rw [cellOf h.1, Nat.zero_add]
  simpa using hj
set_option maxRecDepth 100000 in
theorem len_bodyN (z : Int) (c : UInt8) : (bodyB c (bodyN z)).length < 700 := by rw [len_body]; unfold bodyN; omega
set_option maxRecDepth 100000 in
/-- What a list of records has been grown by one. -/
theorem grown_one {w0 w w1 w2 : World} {OL OD : Nat → Prop} {g : Pl} {x : Part} {v : Value} (hg : Mine w0 w OL OD g) (hx : PQ w (fun k => w0.heap.size ≤ k ∧ ¬ (OL k ∨ OD k)) x) (hA : Adds w w1) (hv : w1.ownsRow 0 22 1 v (g.l.length + 1) (g.l.map PV ++ [PV x])) (hn : ∀ k, v.ownBlock = some k → w0.heap.size ≤ k ∧ ¬ (OL k ∨ OD k)) (h2 : w2 = w1) : ∃ a c, v = .slice a (g.l.length + 1) c ∧ Mine w0 w2 OL OD ⟨a, c, g.l ++ [x]⟩ := by
  subst h2
  obtain ⟨a, c, e, _, hac, hq⟩ := own_cq hv
  refine ⟨a, c, e, ⟨by rw [List.map_append]; exact hq.mono (fun k _ q => hn k q), hac, fun y hy => ?_⟩⟩
  rcases List.mem_append.1 hy with hy | hy
  · exact (hg.all y hy).adds hA
  · obtain rfl := List.mem_singleton.1 hy
    exact hx.adds hA
end Go.Proofs.YtlgbgedkedddaaaDoor
