/- The reference's Commit. -/
import Derived.Test.YtllkplanjfnnmaaGreatDoorQ35
import Derived.Test.YtllkplanjfnnmaaGreatDoorQ36
namespace Go.Proofs.YtllkplanjfnnmaaGreatDoor
open Go.RowKit

set_option maxRecDepth 100000 in
theorem wp_append_bb1 {w : World} {o : Oper} {act : Act} {K : Act → World → Prop} {Q : Exit → Act → World → Prop} (s x : Operand)
    (ho : o.op = .call { callee := .builtin .append, args := #[s, x], argTypes := #[59, 59] }) (v : Value) (n : Nat) (xs : List Value) (hs : act.eval s = v) (hown : w.ownsRow 0 61 1 v n xs)
    (g : Nat) (u : Value) (hx : act.eval x = .slice (some ⟨g, 0, none⟩) 1 1) (hc : w.cell? ⟨g, 0, none⟩ = some u) (hu : u.oneCell' = true) (hlen : n ≤ 10000000)
    (h : ∀ v' w', Grew w w' 61 v v' (n + 1) (xs ++ [u]) → K (act.put o.dst v') w') : o.wp Tryz.prog act w K Q := by
  obtain ⟨i0, hi, hz0, hz1, hz2⟩ := infoBB
  refine wp_append_own_at s x 59 ho 0 61 i0 (.slice none 0 0) 1 24 Tryz.underlying59 hi hz0 hz1 hz2 rfl (by decide) v n xs hs hown ⟨g, 0, none⟩ 1 1 [u] hx rfl ?_ (fun y hy => by rw [List.mem_singleton.1 hy]; exact hu) (by unfold maxLen; omega) (by omega) (Nat.zero_le _) (fun v' w' h1 h2 _ h4 => h v' w' ⟨h1, h2, h4⟩)
  intro j y hj
  match j, hj with
  | 0, hj =>
    obtain rfl : u = y := by simpa using hj
    rw [Addr.add_mid]; exact hc
set_option maxRecDepth 100000 in
theorem IsQ.drop {w : World} {O : Nat → Prop} {q rp : Nat} {vL : Value} {t : List Pl} {s : Pl} {L : LS} (h : IsQ w O q rp vL t s L) : IsQ (w.setCell ⟨q, 6, none⟩ (.slice none 0 0)) O q rp vL t ⟨none, 0, []⟩ { L with R := [] } := by
  have hT : Touch (fun k => k = q) w (w.setCell ⟨q, 6, none⟩ (.slice none 0 0)) := Touch.setCell (T := fun k => k = q) (Touch.refl _ w) (p := ⟨q, 6, none⟩) (fun _ => rfl) _
  refine ⟨?_, row_touch h.rows hT (fun k hk c => h.apart (by rw [← c]; exact hk)), h.oq, h.ol, fun g hg => (h.data g hg).touch hT (fun k c => c.2.2), ⟨CQ.nil _ _ _, fun _ => rfl, fun _ c => (by cases c)⟩, h.same, rfl⟩
  rw [setCell_eq_setRow w q 6 _ 67 _ _ h.box, setRow_heap w q _ _ 67 _ h.box]; rfl
set_option maxRecDepth 100000 in
theorem IsQ.close {w : World} {O : Nat → Prop} {q rp : Nat} {vL : Value} {t : List Pl} {s : Pl} {L : LS} (h : IsQ w O q rp vL t s L) : IsQ (w.setCell ⟨q, 4, none⟩ (.bool true)) O q rp vL t s { L with cl := true } := by
  have hT : Touch (fun k => k = q) w (w.setCell ⟨q, 4, none⟩ (.bool true)) := Touch.setCell (T := fun k => k = q) (Touch.refl _ w) (p := ⟨q, 4, none⟩) (fun _ => rfl) _
  refine ⟨?_, row_touch h.rows hT (fun k hk c => h.apart (by rw [← c]; exact hk)), h.oq, h.ol, fun g hg => (h.data g hg).touch hT (fun k c => c.2.2), h.wait.touch hT (fun k c => c.2.2), h.same, h.rest⟩
  rw [setCell_eq_setRow w q 4 _ 67 _ _ h.box, setRow_heap w q _ _ 67 _ h.box]; rfl
/-- What Commit leaves. -/
def PCq (w : World) (OQ OR : Nat → Prop) (q rp : Nat) (L : LS) (D : dSt) (z : Int) (e : Ending) (w' : World) : Prop := e = .returned (.int .i64 z) ∧ Hid (∃ OQ' OR' vL t s, IsQ w' OQ' q rp vL t s L ∧ IsRO w' OR' rp D ∧ (∀ k, OQ' k → ¬ OR' k) ∧ Touch (fun k => OQ k ∨ OR k) w w' ∧ ∀ k, OQ' k ∨ OR' k → (OQ k ∨ OR k) ∨ (w.heap.size ≤ k ∧ k < w'.heap.size))
/-- Where Commit is: the log as it was, the disk behind some writes, the group's bytes. -/
structure CI (w wr : World) (OQ OR OR' : Nat → Prop) (q rp : Nat) (vL : Value) (t : List Pl) (s : Pl) (L : LS) (D : dSt) (B : List UInt8) (gb : Nat) : Prop where
  isq : IsQ wr OQ q rp vL t s L
  ro : IsRO wr OR' rp D
  tch : Touch OR w wr
  new : ∀ k, OR' k → OR k ∨ (w.heap.size ≤ k ∧ k < wr.heap.size)
  bts : At wr (some ⟨gb, 0, none⟩) B
  gbn : ¬ OR' gb ∧ w.heap.size ≤ gb ∧ gb < wr.heap.size
  hap : ∀ k, OQ k → ¬ OR k
  hlt : ∀ k, OQ k ∨ OR k → k < w.heap.size
set_option maxRecDepth 100000 in
theorem CI.adds {w wr w' : World} {OQ OR OR' : Nat → Prop} {q rp : Nat} {vL : Value} {t : List Pl} {s : Pl} {L : LS} {D : dSt} {B : List UInt8} {gb : Nat} (h : CI w wr OQ OR OR' q rp vL t s L D B gb) (hA : Adds wr w') : CI w w' OQ OR OR' q rp vL t s L D B gb := by
  have z := hA.size
  exact ⟨h.isq.add hA, h.ro.adds hA, h.tch.trans (hA.mono (fun _ _ c => c.elim)), fun k c => by rcases h.new k c with c | c; exact .inl c; exact .inr ⟨c.1, by omega⟩, h.bts.adds hA, ⟨h.gbn.1, h.gbn.2.1, by have := h.gbn.2.2; omega⟩, h.hap, h.hlt⟩
theorem CI.disj {w wr : World} {OQ OR OR' : Nat → Prop} {q rp : Nat} {vL : Value} {t : List Pl} {s : Pl} {L : LS} {D : dSt} {B : List UInt8} {gb : Nat} (h : CI w wr OQ OR OR' q rp vL t s L D B gb) : ∀ k, OQ k → ¬ OR' k := fun k c c' => by
  rcases h.new k c' with d | d
  · exact h.hap k c d
  · have := h.hlt k (.inl c); omega
set_option maxRecDepth 100000 in
/-- The disk has turned. -/
theorem CI.turn {w wr w' : World} {OQ OR OR' OR2 : Nat → Prop} {q rp : Nat} {vL : Value} {t : List Pl} {s : Pl} {L : LS} {D D' : dSt} {B : List UInt8} {gb : Nat} (h : CI w wr OQ OR OR' q rp vL t s L D B gb) (hr : IsRO w' OR2 rp D') (hT : Touch OR' wr w') (hn : ∀ k, OR2 k → OR' k ∨ (wr.heap.size ≤ k ∧ k < w'.heap.size)) : CI w w' OQ OR OR2 q rp vL t s L D' B gb := by
  have z := hT.size
  have z0 := h.tch.size
  have g := h.gbn
  refine ⟨h.isq.touch hT h.disj, hr, ?_, fun k c => ?_, h.bts.block (fun b o e hb => hT.block b hb (fun c => ?_)), ⟨fun c => ?_, g.2.1, by omega⟩, h.hap, h.hlt⟩
  · exact h.tch.then hT (fun k hk c => by rcases h.new k c with d | d; exact d; omega)
  · rcases hn k c with c | c
    · rcases h.new k c with d | d
      · exact .inl d
      · exact .inr ⟨d.1, by omega⟩
    · exact .inr ⟨by omega, c.2⟩
  · obtain rfl : gb = b := by simpa using congrArg (fun x => x.map Addr.block) e
    exact g.1 c
  · rcases hn gb c with c | c
    · exact g.1 c
    · omega
set_option maxRecDepth 100000 in
/-- Commit ends: closed. -/
theorem CI.down {w wr : World} {OQ OR OR' : Nat → Prop} {q rp : Nat} {vL : Value} {t : List Pl} {s : Pl} {L : LS} {D : dSt} {B : List UInt8} {gb : Nat} (h : CI w wr OQ OR OR' q rp vL t s L D B gb) (z : Int) : PCq w OQ OR q rp { L with cl := true, R := [] } D z (.returned (.int .i64 z)) ((wr.setCell ⟨q, 4, none⟩ (.bool true)).setCell ⟨q, 6, none⟩ (.slice none 0 0)) := by
  have hT : Touch (fun k => k = q) wr ((wr.setCell ⟨q, 4, none⟩ (.bool true)).setCell ⟨q, 6, none⟩ (.slice none 0 0)) := Touch.setCell (T := fun k => k = q) (Touch.setCell (T := fun k => k = q) (Touch.refl _ wr) (p := ⟨q, 4, none⟩) (fun _ => rfl) _) (p := ⟨q, 6, none⟩) (fun _ => rfl) _
  have zz := hT.size
  have oq := h.isq.oq
  refine ⟨rfl, OQ, OR', vL, t, _, h.isq.close.drop, h.ro.touch hT (fun k c e => h.disj q oq (by rw [← e]; exact c)), h.disj, ?_, fun k c => ?_⟩
  · exact (h.tch.mono (fun _ _ c => .inr c)).trans (hT.mono (fun k _ c => by subst c; exact .inl oq))
  · rcases c with c | c
    · exact .inl (.inl c)
    · rcases h.new k c with d | d
      · exact .inl (.inr d)
      · exact .inr ⟨d.1, by omega⟩
set_option maxRecDepth 100000 in
/-- Commit ends: one more group. -/
theorem CI.up {w wr w2 w3 : World} {OQ OR OR' : Nat → Prop} {q rp : Nat} {vL vL' : Value} {t : List Pl} {s : Pl} {L : LS} {D : dSt} {B : List UInt8} {gb : Nat} (h : CI w wr OQ OR OR' q rp vL t s L D B gb) (hg : W.recs (W.gbytes L.R) = L.R) (hA : Adds wr w2) (hG : Grew w2 w3 61 vL vL' (t.length + 1) (t.map GV ++ [GV s])) : PCq w OQ OR q rp { L with G := L.G ++ [W.gbytes L.R], R := [] } D 0 (.returned (.int .i64 0)) ((w3.setCell ⟨q, 5, none⟩ vL').setCell ⟨q, 6, none⟩ (.slice none 0 0)) := by
  have z0 := h.tch.size
  obtain ⟨r1, r2, r3⟩ := h.isq.grow (fun k c => Nat.lt_of_lt_of_le (h.hlt k (.inl c)) z0) s h.isq.wait hA hG (W.gbytes L.R) (by rw [hg]; exact h.isq.rest)
  have hT : Touch (fun k => k = q) (w3.setCell ⟨q, 5, none⟩ vL') ((w3.setCell ⟨q, 5, none⟩ vL').setCell ⟨q, 6, none⟩ (.slice none 0 0)) := Touch.setCell (T := fun k => k = q) (Touch.refl _ _) (p := ⟨q, 6, none⟩) (fun _ => rfl) _
  have z2 := r2.size
  have z3 := hT.size
  have oq := h.isq.oq
  have hd : ∀ k, OR' k → ¬ OQ k := fun k c c' => h.disj k c' c
  refine ⟨rfl, fun k => OQ k ∨ vL'.ownBlock = some k, OR', vL', t ++ [s], _, r1.drop, (h.ro.touch r2 hd).touch hT (fun k c e => h.disj q oq (by rw [← e]; exact c)), fun k c c' => ?_, ?_, fun k c => ?_⟩
  · rcases c with c | c
    · exact h.disj k c c'
    · rcases r3 k c with d | d
      · exact h.disj k d c'
      · rcases h.new k c' with e | e
        · have := h.hlt k (.inr e); omega
        · omega
  · exact ((h.tch.mono (fun _ _ c => .inr c)).trans (r2.mono (fun _ _ c => .inl c))).trans (hT.mono (fun k _ c => by subst c; exact .inl oq))
  · rcases c with (c | c) | c
    · exact .inl (.inl c)
    · rcases r3 k c with d | d
      · exact .inl (.inl d)
      · exact .inr ⟨by omega, by omega⟩
    · rcases h.new k c with d | d
      · exact .inl (.inr d)
      · exact .inr ⟨d.1, by omega⟩
set_option maxRecDepth 100000 in
theorem q_commit_no {w : World} {OQ OR : Nat → Prop} {q rp : Nat} {vL : Value} {t : List Pl} {s : Pl} {L : LS} {D : dSt} (h : IsQ w OQ q rp vL t s L) (hR : IsRO w OR rp D) (hap : ∀ k, OQ k → ¬ OR k) (z : Int) (hz : (L.cl = true ∧ z = 42) ∨ (L.cl = false ∧ L.R = [] ∧ z = 0)) : Calls Tryz.prog 24 #[Ptr q] w (PCq w OQ OR q rp L D z) := by
  have HE := hid (show ∀ w', w' = w → PCq w OQ OR q rp L D z (.returned (.int .i64 z)) w' from fun w' e => by subst e; exact ⟨rfl, OQ, OR, vL, t, s, h, hR, hap, Touch.refl _ _, fun _ c => .inl c⟩)
  have c4 : w.cell? ⟨q, 4, none⟩ = some (.bool L.cl) := by have c := cellOf h.box 4; simpa using c
  have c6 : w.cell? ⟨q, 6, none⟩ = some (.slice s.a s.l.length s.cap) := by have c := cellOf h.box 6; simpa using c
  have hr := h.rest
  clear h hR
  rcases hz with ⟨h1, rfl⟩ | ⟨h1, h2, rfl⟩
  · rw [h1] at c4
    go_enter Tryz.func24, Tryz.ntmps24
    go_wp2_with fail
    go_ret
    exact HE.out _ rfl
  · rw [h1] at c4
    have h3 : s.l.length = 0 := by have e := congrArg List.length hr; rw [h2, Pl.bs, List.length_map] at e; exact e
    rw [h3] at c6
    go_enter Tryz.func24, Tryz.ntmps24
    go_wp2_with fail
    go_ret
    exact HE.out _ rfl
/-- How far the writes are: the answer so far, the disk so far. -/
def Gone (f : Nat → Int × List UInt8) (n k : Nat) (X : Int × dSt) (z : Int) (D : dSt) : Prop := (z = 0 ∧ goW f (n - k) k D = X) ∨ (z = 10 ∧ X = (10, D))
set_option maxRecDepth 100000 in
theorem Gone.step {f : Nat → Int × List UInt8} {n k : Nat} {X : Int × dSt} {D : dSt} (h : Gone f n k X 0 D) (hk : k < n) : Gone f n (k + 1) X (if D.left = 0 then 10 else 0) (if D.left = 0 then D else D.wrote (f k).1 (f k).2) := by
  rcases h with ⟨_, h⟩ | ⟨h, _⟩
  · rw [show n - k = (n - (k + 1)) + 1 by omega, goW] at h
    by_cases hl : D.left = 0
    · rw [if_pos hl] at h ⊢
      rw [if_pos hl]
      exact .inr ⟨rfl, h.symm⟩
    · rw [if_neg hl] at h ⊢
      rw [if_neg hl]
      exact .inl ⟨rfl, h⟩
  · cases h
set_option maxRecDepth 100000 in
theorem piece_len (B : List UInt8) (k : Nat) : (W.piece B k).length = min (233 * k + 233) B.length - 233 * k := by unfold W.piece; rw [List.length_take, List.length_drop]; omega
set_option maxRecDepth 100000 in
theorem mid_233 (gb bl bc k en : Nat) (h1 : 233 * k ≤ en) (h2 : en ≤ bc) (h3 : 233 * k < bc) (w : World) : (Instr.sliceAt 56 (.slice (some ⟨gb, 0, none⟩) bl bc) (some (.int .i64 (233 * (k : Int)))) (some (.int .i64 (en : Int))) none).run Tryz.prog w = .ok (.slice (some ⟨gb, 233 * k, none⟩) (en - 233 * k) (bc - 233 * k)) w := by
  have q := mid_run gb 0 bl bc (233 * k) en h1 h2 h3 w
  rw [show ((233 * k : Nat) : Int) = 233 * (k : Int) by omega, Nat.zero_add] at q
  exact q
set_option maxRecDepth 100000 in
set_option maxHeartbeats 8000000 in
theorem q_commit_yes {w : World} {OQ OR : Nat → Prop} {q rp : Nat} {vL : Value} {t : List Pl} {s : Pl} {L : LS} {D : dSt} {n0 : Nat} (h : IsQ w OQ q rp vL t s L) (hR : IsRO w OR rp D) (hap : ∀ k, OQ k → ¬ OR k) (hlt : ∀ k, OQ k ∨ OR k → k < w.heap.size) (hk : L.Ok) (hct : L.ct ≤ 17) (hdk : DOk D n0) (hn0 : n0 + L.ct ≤ 800) (hsz : L.fr + L.ct ≤ D.size) (hcl : L.cl = false) (hRn : L.R ≠ []) :
    Calls Tryz.prog 24 #[Ptr q] w (PCq w OQ OR q rp (comL L D) (comD L D) (comE L D)) := by
  obtain ⟨la, lc, hvL, _, _, _⟩ := own_cq h.rows
  obtain ⟨tn, htn⟩ : ∃ tn, tn = t.length := ⟨_, rfl⟩
  rw [← htn] at hvL
  subst hvL
  have HTN := hid htn
  have htn2 : tn ≤ 17 := by rw [htn, h.len]; have h1 := len_used L.G; have h2 := hk.us; omega
  clear htn
  obtain ⟨X, hX⟩ : ∃ X, X = comR L D := ⟨_, rfl⟩
  obtain ⟨g, hg⟩ : ∃ g, g = W.gbytes L.R := ⟨_, rfl⟩
  obtain ⟨us, hus⟩ : ∃ us, us = W.usedOf L.G := ⟨_, rfl⟩
  obtain ⟨n, hn⟩ : ∃ n, n = W.secs g.length := ⟨_, rfl⟩
  obtain ⟨bl, hbl⟩ : ∃ bl, bl = (W.full g).length := ⟨_, rfl⟩
  have hfit : us + n ≤ L.ct := by have h1 := hk.wt hRn; have h2 := hk.us; rw [← hg, ← hn] at h1; rw [← hus] at h1 h2; have h3 : 0 < n := by rw [hn]; exact W.secs_pos _
                                  omega
  have hbl2 : bl = 4 + g.length := by rw [hbl, W.len_full]
  have hnb : n = (bl + 232) / 233 := by rw [hn, hbl2]; rfl
  have hXg : X = goW (fW L.fr L.ep us g) n 0 D := by rw [hX, comR, ← hg, ← hus, ← hn]
  have hcl' : ¬ L.cl = true := by rw [hcl]; decide
  have HF0 := hid (show X.1 = 0 → comL L D = { L with G := L.G ++ [W.gbytes L.R], R := [] } ∧ comD L D = X.2 ∧ comE L D = 0 from fun e => by
    rw [hX] at e ⊢
    rw [comL, comD, comE, if_neg hcl', if_neg hcl', if_neg hcl', if_neg hRn, if_neg hRn, if_neg hRn, if_pos e]
    exact ⟨rfl, rfl, e⟩)
  have HF1 := hid (show X.1 = 10 → comL L D = { L with cl := true, R := [] } ∧ comD L D = X.2 ∧ comE L D = 10 from fun e => by
    rw [hX] at e ⊢
    rw [comL, comD, comE, if_neg hcl', if_neg hcl', if_neg hcl', if_neg hRn, if_neg hRn, if_neg hRn, if_neg (by rw [e]; decide)]
    exact ⟨rfl, rfl, e⟩)
  have htx : (W.texts L.R).length ≤ 3961 := by
    have h2 := texts_le L.R
    rw [← hg] at h2
    have h3 : g.length ≤ 233 * 17 := secs_len (by omega)
    omega
  have HRec := hid (show W.recs (W.gbytes L.R) = L.R from W.recs_put L.R (by rw [← hg]; omega))
  obtain ⟨m, hm⟩ : ∃ m, m = s.l.length := ⟨_, rfl⟩
  have hm0 : m ≠ 0 := by
    intro c
    have e := congrArg List.length h.rest
    rw [Pl.bs, List.length_map, ← hm, c] at e
    exact hRn (List.eq_nil_of_length_eq_zero e.symm)
  have HBt := hid (show Calls Tryz.prog 51 #[.slice s.a m s.cap] w (POwn w (W.full g)) by rw [hg, ← h.rest]; exact bytes8_any s m hm.symm w h.wait (by rw [h.rest]; omega))
  have HU := hid (fun w' (hA : Adds w w') => show Calls Tryz.prog 35 #[Ptr q] w' (Adding (.int .i64 (us : Int)) w') by rw [hus]; exact q_used (h.add hA) hk (by omega))
  have HEp := hid (And.intro hk.ep hk.fr)
  have c4 : w.cell? ⟨q, 4, none⟩ = some (.bool false) := by have c := cellOf h.box 4; rw [hcl] at c; simpa using c
  have c6 : w.cell? ⟨q, 6, none⟩ = some (.slice s.a m s.cap) := by have c := cellOf h.box 6; rw [hm]; simpa using c
  have hm1 : ((m : Int) == 0) = false := by simpa using hm0
  have hm2 : (m == 0) = false := by simpa using hm0
  have HI0 := hid (fun (w2 : World) (gb : Nat) (hA : Adds w w2) (hB : At w2 (some ⟨gb, 0, none⟩) (W.full g)) (hgb : w.heap.size ≤ gb ∧ gb < w2.heap.size) => show CI w w2 OQ OR OR q rp (.slice la tn lc) t s L D (W.full g) gb from ⟨h.add hA, hR.adds hA, hA.mono (fun _ _ c => c.elim), fun _ c => .inl c, hB, ⟨fun c => by have := hlt gb (.inr c); omega, hgb⟩, hap, hlt⟩)
  have HG0 := hid (show Gone (fW L.fr L.ep us g) n 0 X 0 D from .inl ⟨rfl, by rw [hXg, Nat.sub_zero]⟩)
  have HDK := hid hdk
  have HB := hid (And.intro hbl hnb)
  have HSz := hid (show L.fr + L.ct ≤ D.size from hsz)
  have hnn : n ≤ 17 := by omega
  have hbl3 : bl ≤ 3965 := by have h3 : g.length ≤ 233 * 17 := secs_len (by omega)
                              omega
  have husn : us ≤ 17 := by omega
  obtain ⟨ep, hep⟩ : ∃ ep, ep = L.ep := ⟨_, rfl⟩
  obtain ⟨fr, hfr⟩ : ∃ fr, fr = L.fr := ⟨_, rfl⟩
  have hfr2 : fr ≤ 4096 := by rw [hfr]; exact HEp.out.2
  rw [← hep, ← hfr] at HG0
  have HBx := hid (fun (wr : World) (OR' : Nat → Prop) (D' : dSt) (gb : Nat) (c : CI w wr OQ OR OR' q rp (.slice la tn lc) t s L D' (W.full g) gb) => show wr.heap[q]? = some (.cells #[Ptr rp, .int .i64 (fr : Int), .int .i64 (L.ct : Int), .int .i64 (ep : Int), .bool false, .slice la tn lc, .slice s.a m s.cap] 67 (0, 0)) by rw [hep, hfr, hm, ← hcl]; exact c.isq.box)
  have HMk := hid (fun (w' : World) (k : Nat) (hk : k < n) (c3 : w'.cell? ⟨q, 3, none⟩ = some (.int .i64 (ep : Int))) (iz : Int) (hiz : iz = (us : Int) + (k : Int)) => show Calls Tryz.prog 53 #[Ptr q, .int .i64 iz] w' (Tells (.int .u64 (W.mark ep (us + k) : Int)) w') from q_mark q ep (us + k) iz (by omega) w' c3 (by rw [hep]; exact HEp.out.1) (by omega) _ rfl)
  have HWr := hid (fun (w' : World) (gb bc k en : Nat) (hk : k < n) (hB : At w' (some ⟨gb, 0, none⟩) (W.full g)) (hen : en = min (233 * k + 233) bl) (kz : Int) (hkz : kz = ((W.kind k).toNat : Int)) => show Calls Tryz.prog 52 #[.int .u64 (W.mark ep (us + k) : Int), .int .u8 kz, .slice (some ⟨gb, 233 * k, none⟩) (en - 233 * k) (bc - 233 * k)] w' (fun e w2 => ∃ ay cy, e = .returned (.tuple #[.slice ay 256 cy, .int .i64 0]) ∧ At w2 ay (W.laid ep us g k) ∧ Adds w' w2) by
    have he : ep ≤ 1000000000 := by rw [hep]; exact HEp.out.1
    have hl : (W.piece (W.full g) k).length = en - 233 * k := by rw [piece_len, hen, hbl]
    have hA : At w' (some ⟨gb, 233 * k, none⟩) (W.piece (W.full g) k) := by have q := (hB.suf (233 * k)).pre 233; rw [Nat.zero_add] at q; exact q
    have q := rswrap_ok (W.mark ep (us + k)) (by unfold W.mark; omega) (W.kind k) (some ⟨gb, 233 * k, none⟩) (W.piece (W.full g) k) (bc - 233 * k) w' (by unfold W.mark; omega) (W.kind_ne k) (W.piece_le _ _) (fun e => by cases e) hA
    rw [hl] at q
    rw [hkz]
    exact q)
  have HSD := hid (fun (D' : dSt) (hs : D'.size = D.size) (k : Nat) (hk : k < n) => show (0 : Int) ≤ (fr : Int) + (us : Int) + (k : Int) ∧ (fr : Int) + (us : Int) + (k : Int) < D'.size by rw [hs, hfr]; omega)
  have HDD := hid (show n0 + n ≤ 800 by omega)
  have HNM := hid (And.intro hep (And.intro hfr hm))
  clear h hR hap hlt hk hdk hsz hcl hcl' hRn hX hg hus hn hbl hbl2 hnb hXg htx hm hm0 hep hfr hfit hn0
  go_enter Tryz.func24, Tryz.ntmps24
  go_wp2_with (first
    | (go_at_call 51; refine HBt.out.mono ?_; rintro e w1 ⟨v1, rfl, o1, A1⟩
       obtain ⟨va, bc, hv, hbc, _, hq⟩ := own_cq o1
       rw [← HB.out.1] at hv hbc
       have hpos : 0 < (W.full g).length := by rw [W.len_full]; omega
       obtain ⟨gb, go_, hgo⟩ : ∃ gb go_, va = some ⟨gb, go_, none⟩ := hq.at.ad hpos
       have hgo0 : va = some ⟨gb, 0, none⟩ := by
         rcases o1.2 with ⟨c, _⟩ | ⟨g', cap', cur, c, _⟩
         · rw [hv] at c; cases c; cases hgo
         · rw [hv] at c; cases c; cases hgo; rfl
       have hgb : v1.ownBlock = some gb := by rw [hv, hgo0]; rfl
       have HGb := hid (row_low o1 hgb)
       rw [hgo0] at hv hq
       subst hv
       have H1 := hid (And.intro hq.at A1)
       clear o1 A1 hq hgo hgo0 hgb hpos)
    | (go_at_call 35; refine (HU.out w1 H1.out.2).mono ?_; rintro e w2 ⟨rfl, A2⟩; have HI2 := hid (HI0.out w2 gb (H1.out.2.trans A2) (H1.out.1.adds A2) ⟨HGb.out.1, Nat.lt_of_lt_of_le HGb.out.2 A2.size⟩); clear A2))
  go_loopw [4, 6] (fun ez i wr => ∃ (k : Nat) (z : Int) (D' : dSt) (OR' : Nat → Prop), k ≤ n ∧ i = .int .i64 (k : Int) ∧ ez = .int .i64 z ∧ Hid (Gone (fW fr ep us g) n k X z D' ∧ DOk D' (n0 + k) ∧ D'.size = D.size ∧ CI w wr OQ OR OR' q rp (.slice la tn lc) t s L D' (W.full g) gb)) (fun _ i _ => n - (intOf i).toNat)
  case atStart => exact ⟨0, 0, D, OR, Nat.zero_le _, rfl, rfl, HG0.out, HDK.out, rfl, HI2.out⟩
  case round =>
    obtain ⟨k, z, D', OR', hk, rfl, rfl, HI⟩ := hrel
    have HBX := hid (HBx.out wr OR' D' gb HI.out.2.2.2)
    by_cases hz : z = 0
    · subst hz
      by_cases hlt : k < n
      · have hkl : 233 * k < bl := by have := HB.out.2; omega
        obtain ⟨zz, hzz⟩ : ∃ zz : Int, zz = if D'.left = 0 then 10 else 0 := ⟨_, rfl⟩
        obtain ⟨D2, hD2⟩ : ∃ D2 : dSt, D2 = if D'.left = 0 then D' else D'.wrote (fW fr ep us g k).1 (fW fr ep us g k).2 := ⟨_, rfl⟩
        have HGo := hid (show Gone (fW fr ep us g) n (k + 1) X zz D2 by rw [hzz, hD2]; exact HI.out.1.step hlt)
        have HD2 := hid (show DOk D2 (n0 + (k + 1)) ∧ D2.size = D.size by
          rw [hD2]
          by_cases hl : D'.left = 0
          · rw [if_pos hl]; exact ⟨HI.out.2.1.mono (by omega), HI.out.2.2.1⟩
          · rw [if_neg hl]; exact ⟨HI.out.2.1.wrote _ _, HI.out.2.2.1⟩)
        have HPt := hid (fun (w' : World) (hA : Adds wr w') (iz : Int) (hiz : iz = (fr : Int) + (us : Int) + (k : Int)) => show Calls Tryz.prog 54 #[Ptr rp, .int .i64 iz, .string ⟨(W.laid ep us g k).toArray⟩] w' (PRo w' OR' rp (zz, D2)) by
          have q := ro_put (HI.out.2.2.2.ro.adds hA) HI.out.2.1 (by have := HDD.out; omega) iz (by rw [hiz]; exact HSD.out D' HI.out.2.2.1 k hlt) (W.laid ep us g k) (W.len_laid _ _ _ _)
          have e1 : (if D'.left = 0 then ((10 : Int), D') else (0, D'.wrote iz (W.laid ep us g k))) = (zz, D2) := by
            have e2 : iz = (fW fr ep us g k).1 := by rw [hiz, fW]; show _ = ((fr + us + k : Nat) : Int); omega
            rw [hzz, hD2, e2]
            by_cases hl : D'.left = 0
            · rw [if_pos hl, if_pos hl, if_pos hl]
            · rw [if_neg hl, if_neg hl, if_neg hl]; rfl
          rw [e1] at q
          exact q)
        clear hzz hD2
        by_cases hk0 : k = 0
        · subst hk0
          by_cases hs : bl < 233
          · skip
            have hmid : ∀ w' : World, (Instr.sliceAt 56 (.slice (some ⟨gb, 0, none⟩) bl bc) (some (.int .i64 0)) (some (.int .i64 (bl : Int))) none).run Tryz.prog w' = .ok (.slice (some ⟨gb, 0, none⟩) bl bc) w' := fun w' => mid_233 gb bl bc 0 bl (by omega) (by omega) (by omega) w'
            have HWp := hid (fun (w' : World) (hA : Adds wr w') => show Calls Tryz.prog 52 #[.int .u64 (W.mark ep (us + 0) : Int), .int .u8 1, .slice (some ⟨gb, 0, none⟩) bl bc] w' (fun e w2 => ∃ ay cy, e = .returned (.tuple #[.slice ay 256 cy, .int .i64 0]) ∧ At w2 ay (W.laid ep us g 0) ∧ Adds w' w2) by have q := HWr.out w' gb bc 0 bl hlt (HI.out.2.2.2.bts.adds hA) (by omega) 1 (by rfl); exact q)
            have d7 : decide ((bl : Int) < 233) = true := by simp; omega
            have d8 : decide (bl < 233) = true := by simp; omega
            have d9 : decide ((0 : Int) < (bl : Int)) = true := by simp; omega
            have d10 : decide (0 < bl) = true := by simp; omega
            clear hs
            go_upto_region 17 with fail
            refine H_begin (S := fun w' : World => Adds wr w') (by kernel_rfl) ?_
            have hS : (fun w' : World => Adds wr w') wr.drew := (Touch.refl _ wr).drew
            refine H_put (i := 0) 51 (v := Ptr q) rfl rfl (by kernel_rfl) (by kernel_rfl) (by kernel_rfl) (fun _ _ _ h => h) (Or.inl ⟨by rfl, fun w' hw' => ?_⟩) hS ?_
            · go_simp
            simp only [Act.put, List.setIfInBounds_toArray, List.set_cons_zero, List.set_cons_succ]
            refine H_put (i := 1) 52 (v := .int .i64 (us : Int)) rfl rfl (by kernel_rfl) (by kernel_rfl) (by kernel_rfl) (fun _ _ _ h => h) (Or.inl ⟨by rfl, fun w' hw' => ?_⟩) hS ?_
            · go_simp
            simp only [Act.put, List.setIfInBounds_toArray, List.set_cons_zero, List.set_cons_succ]
            refine H_put (i := 2) 53 (v := .int .i64 0) rfl rfl (by kernel_rfl) (by kernel_rfl) (by kernel_rfl) (fun _ _ _ h => h) (Or.inl ⟨by rfl, fun w' hw' => ?_⟩) hS ?_
            · go_simp
            simp only [Act.put, List.setIfInBounds_toArray, List.set_cons_zero, List.set_cons_succ]
            refine H_put (i := 3) 54 (v := .int .i64 (us : Int)) rfl rfl (by kernel_rfl) (by kernel_rfl) (by kernel_rfl) (fun _ _ _ h => h) (Or.inl ⟨by rfl, fun w' hw' => ?_⟩) hS ?_
            · go_simp; rw [IntKind.wrap_i64]; omega
            simp only [Act.put, List.setIfInBounds_toArray, List.set_cons_zero, List.set_cons_succ]
            refine H_put (i := 5) 56 (v := .int .u8 1) rfl rfl (by kernel_rfl) (by kernel_rfl) (by kernel_rfl) (fun _ _ _ h => h) (Or.inl ⟨by rfl, fun w' hw' => ?_⟩) hS ?_
            · go_simp
            simp only [Act.put, List.setIfInBounds_toArray, List.set_cons_zero, List.set_cons_succ]
            refine H_put (i := 6) 57 (v := .slice (some ⟨gb, 0, none⟩) bl bc) rfl rfl (by kernel_rfl) (by kernel_rfl) (by kernel_rfl) (fun _ _ _ h => h) (Or.inl ⟨by rfl, fun w' hw' => ?_⟩) hS ?_
            · go_simp
            simp only [Act.put, List.setIfInBounds_toArray, List.set_cons_zero, List.set_cons_succ]
            refine H_put (i := 7) 58 (v := .int .i64 0) rfl rfl (by kernel_rfl) (by kernel_rfl) (by kernel_rfl) (fun _ _ _ h => h) (Or.inl ⟨by rfl, fun w' hw' => ?_⟩) hS ?_
            · go_simp
            simp only [Act.put, List.setIfInBounds_toArray, List.set_cons_zero, List.set_cons_succ]
            refine H_put (i := 8) 59 (v := .int .i64 0) rfl rfl (by kernel_rfl) (by kernel_rfl) (by kernel_rfl) (fun _ _ _ h => h) (Or.inl ⟨by rfl, fun w' hw' => ?_⟩) hS ?_
            · go_simp; rw [IntKind.wrap_i64]; omega
            simp only [Act.put, List.setIfInBounds_toArray, List.set_cons_zero, List.set_cons_succ]
            refine H_put (i := 9) 60 (v := .int .i64 (bl : Int)) rfl rfl (by kernel_rfl) (by kernel_rfl) (by kernel_rfl) (fun _ _ _ h => h) (Or.inl ⟨by rfl, fun w' hw' => ?_⟩) hS ?_
            · go_simp
            simp only [Act.put, List.setIfInBounds_toArray, List.set_cons_zero, List.set_cons_succ]
            refine H_put (i := 10) 61 (v := .slice (some ⟨gb, 0, none⟩) bl bc) rfl rfl (by kernel_rfl) (by kernel_rfl) (by kernel_rfl) (fun _ _ _ h => h) (Or.inl ⟨by rfl, fun w' hw' => ?_⟩) hS ?_
            · have q := hmid w'; go_simp
            simp only [Act.put, List.setIfInBounds_toArray, List.set_cons_zero, List.set_cons_succ]
            refine H_call (i := 4) 55 53 #[Ptr q, .int .i64 (us : Int)] (by kernel_rfl) rfl rfl (by rfl) (by go_simp) (HMk.out wr.drew 0 hlt (cellOf HBX.out 3) _ (by omega)) ?_
            rintro e _ ⟨rfl, hw⟩
            rw [hw]
            clear hw
            have hS2 : (fun w' : World => Adds wr w') _ := hS
            refine ⟨_, _, rfl, hS2, fun w' h => h, ?_⟩
            clear hS; have hS := hS2; clear hS2
            simp only [Act.put, List.setIfInBounds_toArray, List.set_cons_zero, List.set_cons_succ]
            refine H_call (i := 11) 62 52 #[.int .u64 (W.mark ep (us + 0) : Int), .int .u8 1, .slice (some ⟨gb, 0, none⟩) bl bc] (by kernel_rfl) rfl rfl (by rfl) (by go_simp) (HWp.out wr.drew (Touch.refl _ wr).drew) ?_
            rintro e w3 ⟨ay, cy, rfl, hA3, hD3⟩
            have H3 := hid (And.intro hA3 ((Touch.refl _ wr).drew.trans hD3))
            clear hA3 hD3
            have hS2 : (fun w' : World => Adds wr w') _ := H3.out.2
            refine ⟨_, _, rfl, hS2, fun w' h => h, ?_⟩
            clear hS; have hS := hS2; clear hS2
            simp only [Act.put, List.setIfInBounds_toArray, List.set_cons_zero, List.set_cons_succ]
            refine H_put (i := 12) 50 (v := .tuple #[.slice ay 256 cy, .int .i64 0]) rfl rfl (by kernel_rfl) (by kernel_rfl) (by kernel_rfl) (fun _ _ _ h => h) (Or.inl ⟨by rfl, fun w' hw' => ?_⟩) hS ?_
            · go_simp
            simp only [Act.put, List.setIfInBounds_toArray, List.set_cons_zero, List.set_cons_succ]
            refine H_put (i := 13) 63 (v := .slice ay 256 cy) rfl rfl (by kernel_rfl) (by kernel_rfl) (by kernel_rfl) (fun _ _ _ h => h) (Or.inl ⟨by rfl, fun w' hw' => ?_⟩) hS ?_
            · go_simp
            simp only [Act.put, List.setIfInBounds_toArray, List.set_cons_zero, List.set_cons_succ]
            refine H_put (i := 14) 64 (v := .int .i64 0) rfl rfl (by kernel_rfl) (by kernel_rfl) (by kernel_rfl) (fun _ _ _ h => h) (Or.inl ⟨by rfl, fun w' hw' => ?_⟩) hS ?_
            · go_simp
            simp only [Act.put, List.setIfInBounds_toArray, List.set_cons_zero, List.set_cons_succ]
            refine H_put (i := 15) 9 (v := .slice ay 256 cy) rfl rfl (by kernel_rfl) (by kernel_rfl) (by kernel_rfl) (fun _ _ _ h => h) (Or.inl ⟨by rfl, fun w' hw' => ?_⟩) hS ?_
            · go_simp
            simp only [Act.put, List.setIfInBounds_toArray, List.set_cons_zero, List.set_cons_succ]
            refine H_put (i := 16) 10 (v := .int .i64 0) rfl rfl (by kernel_rfl) (by kernel_rfl) (by kernel_rfl) (fun _ _ _ h => h) (Or.inl ⟨by rfl, fun w' hw' => ?_⟩) hS ?_
            · go_simp
            simp only [Act.put, List.setIfInBounds_toArray, List.set_cons_zero, List.set_cons_succ]
            refine wpAnyH_done (by kernel_rfl) ?_ _
            clear hS hmid
            go_upto_region 18 with fail
            have HB3 := hid (H3.out.2.at' HBX.out id)
            refine H_begin (S := fun w' : World => w'.heap[q]? = some (.cells #[Ptr rp, .int .i64 (fr : Int), .int .i64 (L.ct : Int), .int .i64 (ep : Int), .bool false, .slice la tn lc, .slice s.a m s.cap] 67 (0, 0))) (by kernel_rfl) ?_
            have hS : (fun w' : World => w'.heap[q]? = some (.cells #[Ptr rp, .int .i64 (fr : Int), .int .i64 (L.ct : Int), .int .i64 (ep : Int), .bool false, .slice la tn lc, .slice s.a m s.cap] 67 (0, 0))) w3.drew := HB3.out
            refine H_put (i := 0) 65 (v := Ptr q) rfl rfl (by kernel_rfl) (by kernel_rfl) (by kernel_rfl) (fun _ _ _ h => h) (Or.inl ⟨by rfl, fun w' hw' => ?_⟩) hS ?_
            · go_simp
            simp only [Act.put, List.setIfInBounds_toArray, List.set_cons_zero, List.set_cons_succ]
            refine H_put (i := 1) 66 (v := Ptr q) rfl rfl (by kernel_rfl) (by kernel_rfl) (by kernel_rfl) (fun _ _ _ h => h) (Or.inl ⟨by rfl, fun w' hw' => ?_⟩) hS ?_
            · go_simp
            simp only [Act.put, List.setIfInBounds_toArray, List.set_cons_zero, List.set_cons_succ]
            refine H_put (i := 2) 67 (v := .pointer (some ⟨q, 0, none⟩)) rfl rfl (by kernel_rfl) (by kernel_rfl) (by kernel_rfl) (fun _ _ _ h => h) (Or.inl ⟨by rfl, fun w' hw' => ?_⟩) hS ?_
            · go_simp
            simp only [Act.put, List.setIfInBounds_toArray, List.set_cons_zero, List.set_cons_succ]
            refine H_put (i := 3) 68 (v := Ptr rp) rfl rfl (by kernel_rfl) (by kernel_rfl) (by kernel_rfl) (fun _ _ _ h => h) (Or.inl ⟨by rfl, fun w' hw' => ?_⟩) hS ?_
            · have c : w'.cell? ⟨q, 0, none⟩ = some (Ptr rp) := cellOf hw' 0; go_simp
            simp only [Act.put, List.setIfInBounds_toArray, List.set_cons_zero, List.set_cons_succ]
            refine H_put (i := 4) 69 (v := Ptr q) rfl rfl (by kernel_rfl) (by kernel_rfl) (by kernel_rfl) (fun _ _ _ h => h) (Or.inl ⟨by rfl, fun w' hw' => ?_⟩) hS ?_
            · go_simp
            simp only [Act.put, List.setIfInBounds_toArray, List.set_cons_zero, List.set_cons_succ]
            refine H_put (i := 5) 70 (v := Ptr q) rfl rfl (by kernel_rfl) (by kernel_rfl) (by kernel_rfl) (fun _ _ _ h => h) (Or.inl ⟨by rfl, fun w' hw' => ?_⟩) hS ?_
            · go_simp
            simp only [Act.put, List.setIfInBounds_toArray, List.set_cons_zero, List.set_cons_succ]
            refine H_put (i := 6) 71 (v := .pointer (some ⟨q, 1, none⟩)) rfl rfl (by kernel_rfl) (by kernel_rfl) (by kernel_rfl) (fun _ _ _ h => h) (Or.inl ⟨by rfl, fun w' hw' => ?_⟩) hS ?_
            · go_simp
            simp only [Act.put, List.setIfInBounds_toArray, List.set_cons_zero, List.set_cons_succ]
            refine H_put (i := 7) 72 (v := .int .i64 (fr : Int)) rfl rfl (by kernel_rfl) (by kernel_rfl) (by kernel_rfl) (fun _ _ _ h => h) (Or.inl ⟨by rfl, fun w' hw' => ?_⟩) hS ?_
            · have c : w'.cell? ⟨q, 1, none⟩ = some (.int .i64 (fr : Int)) := cellOf hw' 1; go_simp
            simp only [Act.put, List.setIfInBounds_toArray, List.set_cons_zero, List.set_cons_succ]
            refine H_put (i := 8) 73 (v := .int .i64 (us : Int)) rfl rfl (by kernel_rfl) (by kernel_rfl) (by kernel_rfl) (fun _ _ _ h => h) (Or.inl ⟨by rfl, fun w' hw' => ?_⟩) hS ?_
            · go_simp
            simp only [Act.put, List.setIfInBounds_toArray, List.set_cons_zero, List.set_cons_succ]
            refine H_put (i := 9) 74 (v := .int .i64 ((fr : Int) + (us : Int))) rfl rfl (by kernel_rfl) (by kernel_rfl) (by kernel_rfl) (fun _ _ _ h => h) (Or.inl ⟨by rfl, fun w' hw' => ?_⟩) hS ?_
            · go_simp; rw [IntKind.wrap_i64]; omega
            simp only [Act.put, List.setIfInBounds_toArray, List.set_cons_zero, List.set_cons_succ]
            refine H_put (i := 10) 75 (v := .int .i64 0) rfl rfl (by kernel_rfl) (by kernel_rfl) (by kernel_rfl) (fun _ _ _ h => h) (Or.inl ⟨by rfl, fun w' hw' => ?_⟩) hS ?_
            · go_simp
            simp only [Act.put, List.setIfInBounds_toArray, List.set_cons_zero, List.set_cons_succ]
            refine H_put (i := 11) 76 (v := .int .i64 ((fr : Int) + (us : Int))) rfl rfl (by kernel_rfl) (by kernel_rfl) (by kernel_rfl) (fun _ _ _ h => h) (Or.inl ⟨by rfl, fun w' hw' => ?_⟩) hS ?_
            · go_simp; rw [IntKind.wrap_i64]; omega
            simp only [Act.put, List.setIfInBounds_toArray, List.set_cons_zero, List.set_cons_succ]
            refine H_put (i := 12) 77 (v := .slice ay 256 cy) rfl rfl (by kernel_rfl) (by kernel_rfl) (by kernel_rfl) (fun _ _ _ h => h) (Or.inl ⟨by rfl, fun w' hw' => ?_⟩) hS ?_
            · go_simp
            simp only [Act.put, List.setIfInBounds_toArray, List.set_cons_zero, List.set_cons_succ]
            have hcv := conv_at w3.drew ay (W.laid ep us g 0) cy (H3.out.1.adds (Touch.refl _ w3).drew)
            rw [W.len_laid] at hcv
            refine H_do (i := 13) (some 78) (by kernel_rfl) rfl rfl (by rfl) (fun K hK => ?_)
            go_simp
            refine hK (.string ⟨(W.laid ep us g 0).toArray⟩) _ hS ?_
            clear hK K hcv
            simp only [Act.put, List.setIfInBounds_toArray, List.set_cons_zero, List.set_cons_succ]
            refine H_call (i := 14) 79 54 #[Ptr rp, .int .i64 ((fr : Int) + (us : Int)), .string ⟨(W.laid ep us g 0).toArray⟩] (by kernel_rfl) rfl rfl (by rfl) (by go_simp) (HPt.out w3.drew (H3.out.2.trans (Touch.refl _ w3).drew) _ (by omega)) ?_
            rintro e w4 ⟨rfl, H4⟩
            obtain ⟨OR2, r1, r2, r3⟩ := H4.out
            have HC4 := hid ((HI.out.2.2.2.adds (H3.out.2.trans (Touch.refl _ w3).drew)).turn r1 r2 r3)
            clear r1 r2 r3 H4
            have hS2 : (fun w' : World => w'.heap[q]? = some (.cells #[Ptr rp, .int .i64 (fr : Int), .int .i64 (L.ct : Int), .int .i64 (ep : Int), .bool false, .slice la tn lc, .slice s.a m s.cap] 67 (0, 0))) _ := HBx.out w4 OR2 D2 gb HC4.out
            refine ⟨_, _, rfl, hS2, fun w' h => h, ?_⟩
            clear hS; have hS := hS2; clear hS2
            simp only [Act.put, List.setIfInBounds_toArray, List.set_cons_zero, List.set_cons_succ]
            refine H_put (i := 15) 4 (v := .int .i64 zz) rfl rfl (by kernel_rfl) (by kernel_rfl) (by kernel_rfl) (fun _ _ _ h => h) (Or.inl ⟨by rfl, fun w' hw' => ?_⟩) hS ?_
            · go_simp
            simp only [Act.put, List.setIfInBounds_toArray, List.set_cons_zero, List.set_cons_succ]
            refine wpAnyH_done (by kernel_rfl) ?_ _
            clear hS
            go_wp2_with fail
            go_roundw
            case rel => exact ⟨0 + 1, zz, D2, OR2, by omega, by go_num, rfl, HGo.out, HD2.out.1, HD2.out.2, HC4.out⟩
            case measure => simp [intOf]; omega
          · skip
            have hmid : ∀ w' : World, (Instr.sliceAt 56 (.slice (some ⟨gb, 0, none⟩) bl bc) (some (.int .i64 0)) (some (.int .i64 233)) none).run Tryz.prog w' = .ok (.slice (some ⟨gb, 0, none⟩) 233 bc) w' := fun w' => mid_233 gb bl bc 0 233 (by omega) (by omega) (by omega) w'
            have HWp := hid (fun (w' : World) (hA : Adds wr w') => show Calls Tryz.prog 52 #[.int .u64 (W.mark ep (us + 0) : Int), .int .u8 1, .slice (some ⟨gb, 0, none⟩) 233 bc] w' (fun e w2 => ∃ ay cy, e = .returned (.tuple #[.slice ay 256 cy, .int .i64 0]) ∧ At w2 ay (W.laid ep us g 0) ∧ Adds w' w2) by have q := HWr.out w' gb bc 0 233 hlt (HI.out.2.2.2.bts.adds hA) (by omega) 1 (by rfl); exact q)
            have d7 : decide ((bl : Int) < 233) = false := by simp; omega
            have d8 : decide (bl < 233) = false := by simp; omega
            have d9 : decide ((0 : Int) < (bl : Int)) = true := by simp; omega
            have d10 : decide (0 < bl) = true := by simp; omega
            clear hs
            go_upto_region 17 with fail
            refine H_begin (S := fun w' : World => Adds wr w') (by kernel_rfl) ?_
            have hS : (fun w' : World => Adds wr w') wr.drew := (Touch.refl _ wr).drew
            refine H_put (i := 0) 51 (v := Ptr q) rfl rfl (by kernel_rfl) (by kernel_rfl) (by kernel_rfl) (fun _ _ _ h => h) (Or.inl ⟨by rfl, fun w' hw' => ?_⟩) hS ?_
            · go_simp
            simp only [Act.put, List.setIfInBounds_toArray, List.set_cons_zero, List.set_cons_succ]
            refine H_put (i := 1) 52 (v := .int .i64 (us : Int)) rfl rfl (by kernel_rfl) (by kernel_rfl) (by kernel_rfl) (fun _ _ _ h => h) (Or.inl ⟨by rfl, fun w' hw' => ?_⟩) hS ?_
            · go_simp
            simp only [Act.put, List.setIfInBounds_toArray, List.set_cons_zero, List.set_cons_succ]
            refine H_put (i := 2) 53 (v := .int .i64 0) rfl rfl (by kernel_rfl) (by kernel_rfl) (by kernel_rfl) (fun _ _ _ h => h) (Or.inl ⟨by rfl, fun w' hw' => ?_⟩) hS ?_
            · go_simp
            simp only [Act.put, List.setIfInBounds_toArray, List.set_cons_zero, List.set_cons_succ]
            refine H_put (i := 3) 54 (v := .int .i64 (us : Int)) rfl rfl (by kernel_rfl) (by kernel_rfl) (by kernel_rfl) (fun _ _ _ h => h) (Or.inl ⟨by rfl, fun w' hw' => ?_⟩) hS ?_
            · go_simp; rw [IntKind.wrap_i64]; omega
            simp only [Act.put, List.setIfInBounds_toArray, List.set_cons_zero, List.set_cons_succ]
            refine H_put (i := 5) 56 (v := .int .u8 1) rfl rfl (by kernel_rfl) (by kernel_rfl) (by kernel_rfl) (fun _ _ _ h => h) (Or.inl ⟨by rfl, fun w' hw' => ?_⟩) hS ?_
            · go_simp
            simp only [Act.put, List.setIfInBounds_toArray, List.set_cons_zero, List.set_cons_succ]
            refine H_put (i := 6) 57 (v := .slice (some ⟨gb, 0, none⟩) bl bc) rfl rfl (by kernel_rfl) (by kernel_rfl) (by kernel_rfl) (fun _ _ _ h => h) (Or.inl ⟨by rfl, fun w' hw' => ?_⟩) hS ?_
            · go_simp
            simp only [Act.put, List.setIfInBounds_toArray, List.set_cons_zero, List.set_cons_succ]
            refine H_put (i := 7) 58 (v := .int .i64 0) rfl rfl (by kernel_rfl) (by kernel_rfl) (by kernel_rfl) (fun _ _ _ h => h) (Or.inl ⟨by rfl, fun w' hw' => ?_⟩) hS ?_
            · go_simp
            simp only [Act.put, List.setIfInBounds_toArray, List.set_cons_zero, List.set_cons_succ]
            refine H_put (i := 8) 59 (v := .int .i64 0) rfl rfl (by kernel_rfl) (by kernel_rfl) (by kernel_rfl) (fun _ _ _ h => h) (Or.inl ⟨by rfl, fun w' hw' => ?_⟩) hS ?_
            · go_simp; rw [IntKind.wrap_i64]; omega
            simp only [Act.put, List.setIfInBounds_toArray, List.set_cons_zero, List.set_cons_succ]
            refine H_put (i := 9) 60 (v := .int .i64 233) rfl rfl (by kernel_rfl) (by kernel_rfl) (by kernel_rfl) (fun _ _ _ h => h) (Or.inl ⟨by rfl, fun w' hw' => ?_⟩) hS ?_
            · go_simp
            simp only [Act.put, List.setIfInBounds_toArray, List.set_cons_zero, List.set_cons_succ]
            refine H_put (i := 10) 61 (v := .slice (some ⟨gb, 0, none⟩) 233 bc) rfl rfl (by kernel_rfl) (by kernel_rfl) (by kernel_rfl) (fun _ _ _ h => h) (Or.inl ⟨by rfl, fun w' hw' => ?_⟩) hS ?_
            · have q := hmid w'; go_simp
            simp only [Act.put, List.setIfInBounds_toArray, List.set_cons_zero, List.set_cons_succ]
            refine H_call (i := 4) 55 53 #[Ptr q, .int .i64 (us : Int)] (by kernel_rfl) rfl rfl (by rfl) (by go_simp) (HMk.out wr.drew 0 hlt (cellOf HBX.out 3) _ (by omega)) ?_
            rintro e _ ⟨rfl, hw⟩
            rw [hw]
            clear hw
            have hS2 : (fun w' : World => Adds wr w') _ := hS
            refine ⟨_, _, rfl, hS2, fun w' h => h, ?_⟩
            clear hS; have hS := hS2; clear hS2
            simp only [Act.put, List.setIfInBounds_toArray, List.set_cons_zero, List.set_cons_succ]
            refine H_call (i := 11) 62 52 #[.int .u64 (W.mark ep (us + 0) : Int), .int .u8 1, .slice (some ⟨gb, 0, none⟩) 233 bc] (by kernel_rfl) rfl rfl (by rfl) (by go_simp) (HWp.out wr.drew (Touch.refl _ wr).drew) ?_
            rintro e w3 ⟨ay, cy, rfl, hA3, hD3⟩
            have H3 := hid (And.intro hA3 ((Touch.refl _ wr).drew.trans hD3))
            clear hA3 hD3
            have hS2 : (fun w' : World => Adds wr w') _ := H3.out.2
            refine ⟨_, _, rfl, hS2, fun w' h => h, ?_⟩
            clear hS; have hS := hS2; clear hS2
            simp only [Act.put, List.setIfInBounds_toArray, List.set_cons_zero, List.set_cons_succ]
            refine H_put (i := 12) 50 (v := .tuple #[.slice ay 256 cy, .int .i64 0]) rfl rfl (by kernel_rfl) (by kernel_rfl) (by kernel_rfl) (fun _ _ _ h => h) (Or.inl ⟨by rfl, fun w' hw' => ?_⟩) hS ?_
            · go_simp
            simp only [Act.put, List.setIfInBounds_toArray, List.set_cons_zero, List.set_cons_succ]
            refine H_put (i := 13) 63 (v := .slice ay 256 cy) rfl rfl (by kernel_rfl) (by kernel_rfl) (by kernel_rfl) (fun _ _ _ h => h) (Or.inl ⟨by rfl, fun w' hw' => ?_⟩) hS ?_
            · go_simp
            simp only [Act.put, List.setIfInBounds_toArray, List.set_cons_zero, List.set_cons_succ]
            refine H_put (i := 14) 64 (v := .int .i64 0) rfl rfl (by kernel_rfl) (by kernel_rfl) (by kernel_rfl) (fun _ _ _ h => h) (Or.inl ⟨by rfl, fun w' hw' => ?_⟩) hS ?_
            · go_simp
            simp only [Act.put, List.setIfInBounds_toArray, List.set_cons_zero, List.set_cons_succ]
            refine H_put (i := 15) 9 (v := .slice ay 256 cy) rfl rfl (by kernel_rfl) (by kernel_rfl) (by kernel_rfl) (fun _ _ _ h => h) (Or.inl ⟨by rfl, fun w' hw' => ?_⟩) hS ?_
            · go_simp
            simp only [Act.put, List.setIfInBounds_toArray, List.set_cons_zero, List.set_cons_succ]
            refine H_put (i := 16) 10 (v := .int .i64 0) rfl rfl (by kernel_rfl) (by kernel_rfl) (by kernel_rfl) (fun _ _ _ h => h) (Or.inl ⟨by rfl, fun w' hw' => ?_⟩) hS ?_
            · go_simp
            simp only [Act.put, List.setIfInBounds_toArray, List.set_cons_zero, List.set_cons_succ]
            refine wpAnyH_done (by kernel_rfl) ?_ _
            clear hS hmid
            go_upto_region 18 with fail
            have HB3 := hid (H3.out.2.at' HBX.out id)
            refine H_begin (S := fun w' : World => w'.heap[q]? = some (.cells #[Ptr rp, .int .i64 (fr : Int), .int .i64 (L.ct : Int), .int .i64 (ep : Int), .bool false, .slice la tn lc, .slice s.a m s.cap] 67 (0, 0))) (by kernel_rfl) ?_
            have hS : (fun w' : World => w'.heap[q]? = some (.cells #[Ptr rp, .int .i64 (fr : Int), .int .i64 (L.ct : Int), .int .i64 (ep : Int), .bool false, .slice la tn lc, .slice s.a m s.cap] 67 (0, 0))) w3.drew := HB3.out
            refine H_put (i := 0) 65 (v := Ptr q) rfl rfl (by kernel_rfl) (by kernel_rfl) (by kernel_rfl) (fun _ _ _ h => h) (Or.inl ⟨by rfl, fun w' hw' => ?_⟩) hS ?_
            · go_simp
            simp only [Act.put, List.setIfInBounds_toArray, List.set_cons_zero, List.set_cons_succ]
            refine H_put (i := 1) 66 (v := Ptr q) rfl rfl (by kernel_rfl) (by kernel_rfl) (by kernel_rfl) (fun _ _ _ h => h) (Or.inl ⟨by rfl, fun w' hw' => ?_⟩) hS ?_
            · go_simp
            simp only [Act.put, List.setIfInBounds_toArray, List.set_cons_zero, List.set_cons_succ]
            refine H_put (i := 2) 67 (v := .pointer (some ⟨q, 0, none⟩)) rfl rfl (by kernel_rfl) (by kernel_rfl) (by kernel_rfl) (fun _ _ _ h => h) (Or.inl ⟨by rfl, fun w' hw' => ?_⟩) hS ?_
            · go_simp
            simp only [Act.put, List.setIfInBounds_toArray, List.set_cons_zero, List.set_cons_succ]
            refine H_put (i := 3) 68 (v := Ptr rp) rfl rfl (by kernel_rfl) (by kernel_rfl) (by kernel_rfl) (fun _ _ _ h => h) (Or.inl ⟨by rfl, fun w' hw' => ?_⟩) hS ?_
            · have c : w'.cell? ⟨q, 0, none⟩ = some (Ptr rp) := cellOf hw' 0; go_simp
            simp only [Act.put, List.setIfInBounds_toArray, List.set_cons_zero, List.set_cons_succ]
            refine H_put (i := 4) 69 (v := Ptr q) rfl rfl (by kernel_rfl) (by kernel_rfl) (by kernel_rfl) (fun _ _ _ h => h) (Or.inl ⟨by rfl, fun w' hw' => ?_⟩) hS ?_
            · go_simp
            simp only [Act.put, List.setIfInBounds_toArray, List.set_cons_zero, List.set_cons_succ]
            refine H_put (i := 5) 70 (v := Ptr q) rfl rfl (by kernel_rfl) (by kernel_rfl) (by kernel_rfl) (fun _ _ _ h => h) (Or.inl ⟨by rfl, fun w' hw' => ?_⟩) hS ?_
            · go_simp
            simp only [Act.put, List.setIfInBounds_toArray, List.set_cons_zero, List.set_cons_succ]
            refine H_put (i := 6) 71 (v := .pointer (some ⟨q, 1, none⟩)) rfl rfl (by kernel_rfl) (by kernel_rfl) (by kernel_rfl) (fun _ _ _ h => h) (Or.inl ⟨by rfl, fun w' hw' => ?_⟩) hS ?_
            · go_simp
            simp only [Act.put, List.setIfInBounds_toArray, List.set_cons_zero, List.set_cons_succ]
            refine H_put (i := 7) 72 (v := .int .i64 (fr : Int)) rfl rfl (by kernel_rfl) (by kernel_rfl) (by kernel_rfl) (fun _ _ _ h => h) (Or.inl ⟨by rfl, fun w' hw' => ?_⟩) hS ?_
            · have c : w'.cell? ⟨q, 1, none⟩ = some (.int .i64 (fr : Int)) := cellOf hw' 1; go_simp
            simp only [Act.put, List.setIfInBounds_toArray, List.set_cons_zero, List.set_cons_succ]
            refine H_put (i := 8) 73 (v := .int .i64 (us : Int)) rfl rfl (by kernel_rfl) (by kernel_rfl) (by kernel_rfl) (fun _ _ _ h => h) (Or.inl ⟨by rfl, fun w' hw' => ?_⟩) hS ?_
            · go_simp
            simp only [Act.put, List.setIfInBounds_toArray, List.set_cons_zero, List.set_cons_succ]
            refine H_put (i := 9) 74 (v := .int .i64 ((fr : Int) + (us : Int))) rfl rfl (by kernel_rfl) (by kernel_rfl) (by kernel_rfl) (fun _ _ _ h => h) (Or.inl ⟨by rfl, fun w' hw' => ?_⟩) hS ?_
            · go_simp; rw [IntKind.wrap_i64]; omega
            simp only [Act.put, List.setIfInBounds_toArray, List.set_cons_zero, List.set_cons_succ]
            refine H_put (i := 10) 75 (v := .int .i64 0) rfl rfl (by kernel_rfl) (by kernel_rfl) (by kernel_rfl) (fun _ _ _ h => h) (Or.inl ⟨by rfl, fun w' hw' => ?_⟩) hS ?_
            · go_simp
            simp only [Act.put, List.setIfInBounds_toArray, List.set_cons_zero, List.set_cons_succ]
            refine H_put (i := 11) 76 (v := .int .i64 ((fr : Int) + (us : Int))) rfl rfl (by kernel_rfl) (by kernel_rfl) (by kernel_rfl) (fun _ _ _ h => h) (Or.inl ⟨by rfl, fun w' hw' => ?_⟩) hS ?_
            · go_simp; rw [IntKind.wrap_i64]; omega
            simp only [Act.put, List.setIfInBounds_toArray, List.set_cons_zero, List.set_cons_succ]
            refine H_put (i := 12) 77 (v := .slice ay 256 cy) rfl rfl (by kernel_rfl) (by kernel_rfl) (by kernel_rfl) (fun _ _ _ h => h) (Or.inl ⟨by rfl, fun w' hw' => ?_⟩) hS ?_
            · go_simp
            simp only [Act.put, List.setIfInBounds_toArray, List.set_cons_zero, List.set_cons_succ]
            have hcv := conv_at w3.drew ay (W.laid ep us g 0) cy (H3.out.1.adds (Touch.refl _ w3).drew)
            rw [W.len_laid] at hcv
            refine H_do (i := 13) (some 78) (by kernel_rfl) rfl rfl (by rfl) (fun K hK => ?_)
            go_simp
            refine hK (.string ⟨(W.laid ep us g 0).toArray⟩) _ hS ?_
            clear hK K hcv
            simp only [Act.put, List.setIfInBounds_toArray, List.set_cons_zero, List.set_cons_succ]
            refine H_call (i := 14) 79 54 #[Ptr rp, .int .i64 ((fr : Int) + (us : Int)), .string ⟨(W.laid ep us g 0).toArray⟩] (by kernel_rfl) rfl rfl (by rfl) (by go_simp) (HPt.out w3.drew (H3.out.2.trans (Touch.refl _ w3).drew) _ (by omega)) ?_
            rintro e w4 ⟨rfl, H4⟩
            obtain ⟨OR2, r1, r2, r3⟩ := H4.out
            have HC4 := hid ((HI.out.2.2.2.adds (H3.out.2.trans (Touch.refl _ w3).drew)).turn r1 r2 r3)
            clear r1 r2 r3 H4
            have hS2 : (fun w' : World => w'.heap[q]? = some (.cells #[Ptr rp, .int .i64 (fr : Int), .int .i64 (L.ct : Int), .int .i64 (ep : Int), .bool false, .slice la tn lc, .slice s.a m s.cap] 67 (0, 0))) _ := HBx.out w4 OR2 D2 gb HC4.out
            refine ⟨_, _, rfl, hS2, fun w' h => h, ?_⟩
            clear hS; have hS := hS2; clear hS2
            simp only [Act.put, List.setIfInBounds_toArray, List.set_cons_zero, List.set_cons_succ]
            refine H_put (i := 15) 4 (v := .int .i64 zz) rfl rfl (by kernel_rfl) (by kernel_rfl) (by kernel_rfl) (fun _ _ _ h => h) (Or.inl ⟨by rfl, fun w' hw' => ?_⟩) hS ?_
            · go_simp
            simp only [Act.put, List.setIfInBounds_toArray, List.set_cons_zero, List.set_cons_succ]
            refine wpAnyH_done (by kernel_rfl) ?_ _
            clear hS
            go_wp2_with fail
            go_roundw
            case rel => exact ⟨0 + 1, zz, D2, OR2, by omega, by go_num, rfl, HGo.out, HD2.out.1, HD2.out.2, HC4.out⟩
            case measure => simp [intOf]; omega
        · by_cases hs : bl < 233 * k + 233
          · skip
            have hmid : ∀ w' : World, (Instr.sliceAt 56 (.slice (some ⟨gb, 0, none⟩) bl bc) (some (.int .i64 (233 * (k : Int)))) (some (.int .i64 (bl : Int))) none).run Tryz.prog w' = .ok (.slice (some ⟨gb, 233 * k, none⟩) (bl - 233 * k) (bc - 233 * k)) w' := fun w' => by have q := mid_233 gb bl bc k bl (by omega) (by omega) (by omega) w'; simpa using q
            have HWp := hid (fun (w' : World) (hA : Adds wr w') => show Calls Tryz.prog 52 #[.int .u64 (W.mark ep (us + k) : Int), .int .u8 2, .slice (some ⟨gb, 233 * k, none⟩) (bl - 233 * k) (bc - 233 * k)] w' (fun e w2 => ∃ ay cy, e = .returned (.tuple #[.slice ay 256 cy, .int .i64 0]) ∧ At w2 ay (W.laid ep us g k) ∧ Adds w' w2) by have q := HWr.out w' gb bc k bl hlt (HI.out.2.2.2.bts.adds hA) (by omega) 2 (by rw [W.kind, if_neg hk0]; rfl); exact q)
            have d7 : decide ((bl : Int) < 233 * (k : Int) + 233) = true := by simp; omega
            have d8 : decide (bl < 233 * k + 233) = true := by simp; omega
            have e1 : ((k : Int) == 0) = false := by simpa using hk0
            have e2 : (k == 0) = false := by simpa using hk0
            have d9 : decide (233 * (k : Int) < (bl : Int)) = true := by simp; omega
            have d10 : decide (233 * k < bl) = true := by simp; omega
            clear hs hk0
            go_upto_region 17 with fail
            refine H_begin (S := fun w' : World => Adds wr w') (by kernel_rfl) ?_
            have hS : (fun w' : World => Adds wr w') wr.drew := (Touch.refl _ wr).drew
            refine H_put (i := 0) 51 (v := Ptr q) rfl rfl (by kernel_rfl) (by kernel_rfl) (by kernel_rfl) (fun _ _ _ h => h) (Or.inl ⟨by rfl, fun w' hw' => ?_⟩) hS ?_
            · go_simp
            simp only [Act.put, List.setIfInBounds_toArray, List.set_cons_zero, List.set_cons_succ]
            refine H_put (i := 1) 52 (v := .int .i64 (us : Int)) rfl rfl (by kernel_rfl) (by kernel_rfl) (by kernel_rfl) (fun _ _ _ h => h) (Or.inl ⟨by rfl, fun w' hw' => ?_⟩) hS ?_
            · go_simp
            simp only [Act.put, List.setIfInBounds_toArray, List.set_cons_zero, List.set_cons_succ]
            refine H_put (i := 2) 53 (v := .int .i64 (k : Int)) rfl rfl (by kernel_rfl) (by kernel_rfl) (by kernel_rfl) (fun _ _ _ h => h) (Or.inl ⟨by rfl, fun w' hw' => ?_⟩) hS ?_
            · go_simp
            simp only [Act.put, List.setIfInBounds_toArray, List.set_cons_zero, List.set_cons_succ]
            refine H_put (i := 3) 54 (v := .int .i64 ((us : Int) + (k : Int))) rfl rfl (by kernel_rfl) (by kernel_rfl) (by kernel_rfl) (fun _ _ _ h => h) (Or.inl ⟨by rfl, fun w' hw' => ?_⟩) hS ?_
            · go_simp; rw [IntKind.wrap_i64]; omega
            simp only [Act.put, List.setIfInBounds_toArray, List.set_cons_zero, List.set_cons_succ]
            refine H_put (i := 5) 56 (v := .int .u8 2) rfl rfl (by kernel_rfl) (by kernel_rfl) (by kernel_rfl) (fun _ _ _ h => h) (Or.inl ⟨by rfl, fun w' hw' => ?_⟩) hS ?_
            · go_simp
            simp only [Act.put, List.setIfInBounds_toArray, List.set_cons_zero, List.set_cons_succ]
            refine H_put (i := 6) 57 (v := .slice (some ⟨gb, 0, none⟩) bl bc) rfl rfl (by kernel_rfl) (by kernel_rfl) (by kernel_rfl) (fun _ _ _ h => h) (Or.inl ⟨by rfl, fun w' hw' => ?_⟩) hS ?_
            · go_simp
            simp only [Act.put, List.setIfInBounds_toArray, List.set_cons_zero, List.set_cons_succ]
            refine H_put (i := 7) 58 (v := .int .i64 (k : Int)) rfl rfl (by kernel_rfl) (by kernel_rfl) (by kernel_rfl) (fun _ _ _ h => h) (Or.inl ⟨by rfl, fun w' hw' => ?_⟩) hS ?_
            · go_simp
            simp only [Act.put, List.setIfInBounds_toArray, List.set_cons_zero, List.set_cons_succ]
            refine H_put (i := 8) 59 (v := .int .i64 (233 * (k : Int))) rfl rfl (by kernel_rfl) (by kernel_rfl) (by kernel_rfl) (fun _ _ _ h => h) (Or.inl ⟨by rfl, fun w' hw' => ?_⟩) hS ?_
            · go_simp; rw [IntKind.wrap_i64]; omega
            simp only [Act.put, List.setIfInBounds_toArray, List.set_cons_zero, List.set_cons_succ]
            refine H_put (i := 9) 60 (v := .int .i64 (bl : Int)) rfl rfl (by kernel_rfl) (by kernel_rfl) (by kernel_rfl) (fun _ _ _ h => h) (Or.inl ⟨by rfl, fun w' hw' => ?_⟩) hS ?_
            · go_simp
            simp only [Act.put, List.setIfInBounds_toArray, List.set_cons_zero, List.set_cons_succ]
            refine H_put (i := 10) 61 (v := .slice (some ⟨gb, 233 * k, none⟩) (bl - 233 * k) (bc - 233 * k)) rfl rfl (by kernel_rfl) (by kernel_rfl) (by kernel_rfl) (fun _ _ _ h => h) (Or.inl ⟨by rfl, fun w' hw' => ?_⟩) hS ?_
            · have q := hmid w'; go_simp
            simp only [Act.put, List.setIfInBounds_toArray, List.set_cons_zero, List.set_cons_succ]
            refine H_call (i := 4) 55 53 #[Ptr q, .int .i64 ((us : Int) + (k : Int))] (by kernel_rfl) rfl rfl (by rfl) (by go_simp) (HMk.out wr.drew k hlt (cellOf HBX.out 3) _ (by rfl)) ?_
            rintro e _ ⟨rfl, hw⟩
            rw [hw]
            clear hw
            have hS2 : (fun w' : World => Adds wr w') _ := hS
            refine ⟨_, _, rfl, hS2, fun w' h => h, ?_⟩
            clear hS; have hS := hS2; clear hS2
            simp only [Act.put, List.setIfInBounds_toArray, List.set_cons_zero, List.set_cons_succ]
            refine H_call (i := 11) 62 52 #[.int .u64 (W.mark ep (us + k) : Int), .int .u8 2, .slice (some ⟨gb, 233 * k, none⟩) (bl - 233 * k) (bc - 233 * k)] (by kernel_rfl) rfl rfl (by rfl) (by go_simp) (HWp.out wr.drew (Touch.refl _ wr).drew) ?_
            rintro e w3 ⟨ay, cy, rfl, hA3, hD3⟩
            have H3 := hid (And.intro hA3 ((Touch.refl _ wr).drew.trans hD3))
            clear hA3 hD3
            have hS2 : (fun w' : World => Adds wr w') _ := H3.out.2
            refine ⟨_, _, rfl, hS2, fun w' h => h, ?_⟩
            clear hS; have hS := hS2; clear hS2
            simp only [Act.put, List.setIfInBounds_toArray, List.set_cons_zero, List.set_cons_succ]
            refine H_put (i := 12) 50 (v := .tuple #[.slice ay 256 cy, .int .i64 0]) rfl rfl (by kernel_rfl) (by kernel_rfl) (by kernel_rfl) (fun _ _ _ h => h) (Or.inl ⟨by rfl, fun w' hw' => ?_⟩) hS ?_
            · go_simp
            simp only [Act.put, List.setIfInBounds_toArray, List.set_cons_zero, List.set_cons_succ]
            refine H_put (i := 13) 63 (v := .slice ay 256 cy) rfl rfl (by kernel_rfl) (by kernel_rfl) (by kernel_rfl) (fun _ _ _ h => h) (Or.inl ⟨by rfl, fun w' hw' => ?_⟩) hS ?_
            · go_simp
            simp only [Act.put, List.setIfInBounds_toArray, List.set_cons_zero, List.set_cons_succ]
            refine H_put (i := 14) 64 (v := .int .i64 0) rfl rfl (by kernel_rfl) (by kernel_rfl) (by kernel_rfl) (fun _ _ _ h => h) (Or.inl ⟨by rfl, fun w' hw' => ?_⟩) hS ?_
            · go_simp
            simp only [Act.put, List.setIfInBounds_toArray, List.set_cons_zero, List.set_cons_succ]
            refine H_put (i := 15) 9 (v := .slice ay 256 cy) rfl rfl (by kernel_rfl) (by kernel_rfl) (by kernel_rfl) (fun _ _ _ h => h) (Or.inl ⟨by rfl, fun w' hw' => ?_⟩) hS ?_
            · go_simp
            simp only [Act.put, List.setIfInBounds_toArray, List.set_cons_zero, List.set_cons_succ]
            refine H_put (i := 16) 10 (v := .int .i64 0) rfl rfl (by kernel_rfl) (by kernel_rfl) (by kernel_rfl) (fun _ _ _ h => h) (Or.inl ⟨by rfl, fun w' hw' => ?_⟩) hS ?_
            · go_simp
            simp only [Act.put, List.setIfInBounds_toArray, List.set_cons_zero, List.set_cons_succ]
            refine wpAnyH_done (by kernel_rfl) ?_ _
            clear hS hmid
            go_upto_region 18 with fail
            have HB3 := hid (H3.out.2.at' HBX.out id)
            refine H_begin (S := fun w' : World => w'.heap[q]? = some (.cells #[Ptr rp, .int .i64 (fr : Int), .int .i64 (L.ct : Int), .int .i64 (ep : Int), .bool false, .slice la tn lc, .slice s.a m s.cap] 67 (0, 0))) (by kernel_rfl) ?_
            have hS : (fun w' : World => w'.heap[q]? = some (.cells #[Ptr rp, .int .i64 (fr : Int), .int .i64 (L.ct : Int), .int .i64 (ep : Int), .bool false, .slice la tn lc, .slice s.a m s.cap] 67 (0, 0))) w3.drew := HB3.out
            refine H_put (i := 0) 65 (v := Ptr q) rfl rfl (by kernel_rfl) (by kernel_rfl) (by kernel_rfl) (fun _ _ _ h => h) (Or.inl ⟨by rfl, fun w' hw' => ?_⟩) hS ?_
            · go_simp
            simp only [Act.put, List.setIfInBounds_toArray, List.set_cons_zero, List.set_cons_succ]
            refine H_put (i := 1) 66 (v := Ptr q) rfl rfl (by kernel_rfl) (by kernel_rfl) (by kernel_rfl) (fun _ _ _ h => h) (Or.inl ⟨by rfl, fun w' hw' => ?_⟩) hS ?_
            · go_simp
            simp only [Act.put, List.setIfInBounds_toArray, List.set_cons_zero, List.set_cons_succ]
            refine H_put (i := 2) 67 (v := .pointer (some ⟨q, 0, none⟩)) rfl rfl (by kernel_rfl) (by kernel_rfl) (by kernel_rfl) (fun _ _ _ h => h) (Or.inl ⟨by rfl, fun w' hw' => ?_⟩) hS ?_
            · go_simp
            simp only [Act.put, List.setIfInBounds_toArray, List.set_cons_zero, List.set_cons_succ]
            refine H_put (i := 3) 68 (v := Ptr rp) rfl rfl (by kernel_rfl) (by kernel_rfl) (by kernel_rfl) (fun _ _ _ h => h) (Or.inl ⟨by rfl, fun w' hw' => ?_⟩) hS ?_
            · have c : w'.cell? ⟨q, 0, none⟩ = some (Ptr rp) := cellOf hw' 0; go_simp
            simp only [Act.put, List.setIfInBounds_toArray, List.set_cons_zero, List.set_cons_succ]
            refine H_put (i := 4) 69 (v := Ptr q) rfl rfl (by kernel_rfl) (by kernel_rfl) (by kernel_rfl) (fun _ _ _ h => h) (Or.inl ⟨by rfl, fun w' hw' => ?_⟩) hS ?_
            · go_simp
            simp only [Act.put, List.setIfInBounds_toArray, List.set_cons_zero, List.set_cons_succ]
            refine H_put (i := 5) 70 (v := Ptr q) rfl rfl (by kernel_rfl) (by kernel_rfl) (by kernel_rfl) (fun _ _ _ h => h) (Or.inl ⟨by rfl, fun w' hw' => ?_⟩) hS ?_
            · go_simp
            simp only [Act.put, List.setIfInBounds_toArray, List.set_cons_zero, List.set_cons_succ]
            refine H_put (i := 6) 71 (v := .pointer (some ⟨q, 1, none⟩)) rfl rfl (by kernel_rfl) (by kernel_rfl) (by kernel_rfl) (fun _ _ _ h => h) (Or.inl ⟨by rfl, fun w' hw' => ?_⟩) hS ?_
            · go_simp
            simp only [Act.put, List.setIfInBounds_toArray, List.set_cons_zero, List.set_cons_succ]
            refine H_put (i := 7) 72 (v := .int .i64 (fr : Int)) rfl rfl (by kernel_rfl) (by kernel_rfl) (by kernel_rfl) (fun _ _ _ h => h) (Or.inl ⟨by rfl, fun w' hw' => ?_⟩) hS ?_
            · have c : w'.cell? ⟨q, 1, none⟩ = some (.int .i64 (fr : Int)) := cellOf hw' 1; go_simp
            simp only [Act.put, List.setIfInBounds_toArray, List.set_cons_zero, List.set_cons_succ]
            refine H_put (i := 8) 73 (v := .int .i64 (us : Int)) rfl rfl (by kernel_rfl) (by kernel_rfl) (by kernel_rfl) (fun _ _ _ h => h) (Or.inl ⟨by rfl, fun w' hw' => ?_⟩) hS ?_
            · go_simp
            simp only [Act.put, List.setIfInBounds_toArray, List.set_cons_zero, List.set_cons_succ]
            refine H_put (i := 9) 74 (v := .int .i64 ((fr : Int) + (us : Int))) rfl rfl (by kernel_rfl) (by kernel_rfl) (by kernel_rfl) (fun _ _ _ h => h) (Or.inl ⟨by rfl, fun w' hw' => ?_⟩) hS ?_
            · go_simp; rw [IntKind.wrap_i64]; omega
            simp only [Act.put, List.setIfInBounds_toArray, List.set_cons_zero, List.set_cons_succ]
            refine H_put (i := 10) 75 (v := .int .i64 (k : Int)) rfl rfl (by kernel_rfl) (by kernel_rfl) (by kernel_rfl) (fun _ _ _ h => h) (Or.inl ⟨by rfl, fun w' hw' => ?_⟩) hS ?_
            · go_simp
            simp only [Act.put, List.setIfInBounds_toArray, List.set_cons_zero, List.set_cons_succ]
            refine H_put (i := 11) 76 (v := .int .i64 ((fr : Int) + (us : Int) + (k : Int))) rfl rfl (by kernel_rfl) (by kernel_rfl) (by kernel_rfl) (fun _ _ _ h => h) (Or.inl ⟨by rfl, fun w' hw' => ?_⟩) hS ?_
            · go_simp; rw [IntKind.wrap_i64]; omega
            simp only [Act.put, List.setIfInBounds_toArray, List.set_cons_zero, List.set_cons_succ]
            refine H_put (i := 12) 77 (v := .slice ay 256 cy) rfl rfl (by kernel_rfl) (by kernel_rfl) (by kernel_rfl) (fun _ _ _ h => h) (Or.inl ⟨by rfl, fun w' hw' => ?_⟩) hS ?_
            · go_simp
            simp only [Act.put, List.setIfInBounds_toArray, List.set_cons_zero, List.set_cons_succ]
            have hcv := conv_at w3.drew ay (W.laid ep us g k) cy (H3.out.1.adds (Touch.refl _ w3).drew)
            rw [W.len_laid] at hcv
            refine H_do (i := 13) (some 78) (by kernel_rfl) rfl rfl (by rfl) (fun K hK => ?_)
            go_simp
            refine hK (.string ⟨(W.laid ep us g k).toArray⟩) _ hS ?_
            clear hK K hcv
            simp only [Act.put, List.setIfInBounds_toArray, List.set_cons_zero, List.set_cons_succ]
            refine H_call (i := 14) 79 54 #[Ptr rp, .int .i64 ((fr : Int) + (us : Int) + (k : Int)), .string ⟨(W.laid ep us g k).toArray⟩] (by kernel_rfl) rfl rfl (by rfl) (by go_simp) (HPt.out w3.drew (H3.out.2.trans (Touch.refl _ w3).drew) _ (by rfl)) ?_
            rintro e w4 ⟨rfl, H4⟩
            obtain ⟨OR2, r1, r2, r3⟩ := H4.out
            have HC4 := hid ((HI.out.2.2.2.adds (H3.out.2.trans (Touch.refl _ w3).drew)).turn r1 r2 r3)
            clear r1 r2 r3 H4
            have hS2 : (fun w' : World => w'.heap[q]? = some (.cells #[Ptr rp, .int .i64 (fr : Int), .int .i64 (L.ct : Int), .int .i64 (ep : Int), .bool false, .slice la tn lc, .slice s.a m s.cap] 67 (0, 0))) _ := HBx.out w4 OR2 D2 gb HC4.out
            refine ⟨_, _, rfl, hS2, fun w' h => h, ?_⟩
            clear hS; have hS := hS2; clear hS2
            simp only [Act.put, List.setIfInBounds_toArray, List.set_cons_zero, List.set_cons_succ]
            refine H_put (i := 15) 4 (v := .int .i64 zz) rfl rfl (by kernel_rfl) (by kernel_rfl) (by kernel_rfl) (fun _ _ _ h => h) (Or.inl ⟨by rfl, fun w' hw' => ?_⟩) hS ?_
            · go_simp
            simp only [Act.put, List.setIfInBounds_toArray, List.set_cons_zero, List.set_cons_succ]
            refine wpAnyH_done (by kernel_rfl) ?_ _
            clear hS
            go_wp2_with fail
            go_roundw
            case rel => exact ⟨k + 1, zz, D2, OR2, by omega, by go_num, rfl, HGo.out, HD2.out.1, HD2.out.2, HC4.out⟩
            case measure => simp [intOf]; omega
          · skip
            have hmid : ∀ w' : World, (Instr.sliceAt 56 (.slice (some ⟨gb, 0, none⟩) bl bc) (some (.int .i64 (233 * (k : Int)))) (some (.int .i64 (233 * (k : Int) + 233))) none).run Tryz.prog w' = .ok (.slice (some ⟨gb, 233 * k, none⟩) 233 (bc - 233 * k)) w' := fun w' => by have q := mid_233 gb bl bc k (233 * k + 233) (by omega) (by omega) (by omega) w'; simpa using q
            have HWp := hid (fun (w' : World) (hA : Adds wr w') => show Calls Tryz.prog 52 #[.int .u64 (W.mark ep (us + k) : Int), .int .u8 2, .slice (some ⟨gb, 233 * k, none⟩) 233 (bc - 233 * k)] w' (fun e w2 => ∃ ay cy, e = .returned (.tuple #[.slice ay 256 cy, .int .i64 0]) ∧ At w2 ay (W.laid ep us g k) ∧ Adds w' w2) by have q := HWr.out w' gb bc k (233 * k + 233) hlt (HI.out.2.2.2.bts.adds hA) (by omega) 2 (by rw [W.kind, if_neg hk0]; rfl); rw [show 233 * k + 233 - 233 * k = 233 by omega] at q; exact q)
            have d7 : decide ((bl : Int) < 233 * (k : Int) + 233) = false := by simp; omega
            have d8 : decide (bl < 233 * k + 233) = false := by simp; omega
            have e1 : ((k : Int) == 0) = false := by simpa using hk0
            have e2 : (k == 0) = false := by simpa using hk0
            have d9 : decide (233 * (k : Int) < (bl : Int)) = true := by simp; omega
            have d10 : decide (233 * k < bl) = true := by simp; omega
            clear hs hk0
            go_upto_region 17 with fail
            refine H_begin (S := fun w' : World => Adds wr w') (by kernel_rfl) ?_
            have hS : (fun w' : World => Adds wr w') wr.drew := (Touch.refl _ wr).drew
            refine H_put (i := 0) 51 (v := Ptr q) rfl rfl (by kernel_rfl) (by kernel_rfl) (by kernel_rfl) (fun _ _ _ h => h) (Or.inl ⟨by rfl, fun w' hw' => ?_⟩) hS ?_
            · go_simp
            simp only [Act.put, List.setIfInBounds_toArray, List.set_cons_zero, List.set_cons_succ]
            refine H_put (i := 1) 52 (v := .int .i64 (us : Int)) rfl rfl (by kernel_rfl) (by kernel_rfl) (by kernel_rfl) (fun _ _ _ h => h) (Or.inl ⟨by rfl, fun w' hw' => ?_⟩) hS ?_
            · go_simp
            simp only [Act.put, List.setIfInBounds_toArray, List.set_cons_zero, List.set_cons_succ]
            refine H_put (i := 2) 53 (v := .int .i64 (k : Int)) rfl rfl (by kernel_rfl) (by kernel_rfl) (by kernel_rfl) (fun _ _ _ h => h) (Or.inl ⟨by rfl, fun w' hw' => ?_⟩) hS ?_
            · go_simp
            simp only [Act.put, List.setIfInBounds_toArray, List.set_cons_zero, List.set_cons_succ]
            refine H_put (i := 3) 54 (v := .int .i64 ((us : Int) + (k : Int))) rfl rfl (by kernel_rfl) (by kernel_rfl) (by kernel_rfl) (fun _ _ _ h => h) (Or.inl ⟨by rfl, fun w' hw' => ?_⟩) hS ?_
            · go_simp; rw [IntKind.wrap_i64]; omega
            simp only [Act.put, List.setIfInBounds_toArray, List.set_cons_zero, List.set_cons_succ]
            refine H_put (i := 5) 56 (v := .int .u8 2) rfl rfl (by kernel_rfl) (by kernel_rfl) (by kernel_rfl) (fun _ _ _ h => h) (Or.inl ⟨by rfl, fun w' hw' => ?_⟩) hS ?_
            · go_simp
            simp only [Act.put, List.setIfInBounds_toArray, List.set_cons_zero, List.set_cons_succ]
            refine H_put (i := 6) 57 (v := .slice (some ⟨gb, 0, none⟩) bl bc) rfl rfl (by kernel_rfl) (by kernel_rfl) (by kernel_rfl) (fun _ _ _ h => h) (Or.inl ⟨by rfl, fun w' hw' => ?_⟩) hS ?_
            · go_simp
            simp only [Act.put, List.setIfInBounds_toArray, List.set_cons_zero, List.set_cons_succ]
            refine H_put (i := 7) 58 (v := .int .i64 (k : Int)) rfl rfl (by kernel_rfl) (by kernel_rfl) (by kernel_rfl) (fun _ _ _ h => h) (Or.inl ⟨by rfl, fun w' hw' => ?_⟩) hS ?_
            · go_simp
            simp only [Act.put, List.setIfInBounds_toArray, List.set_cons_zero, List.set_cons_succ]
            refine H_put (i := 8) 59 (v := .int .i64 (233 * (k : Int))) rfl rfl (by kernel_rfl) (by kernel_rfl) (by kernel_rfl) (fun _ _ _ h => h) (Or.inl ⟨by rfl, fun w' hw' => ?_⟩) hS ?_
            · go_simp; rw [IntKind.wrap_i64]; omega
            simp only [Act.put, List.setIfInBounds_toArray, List.set_cons_zero, List.set_cons_succ]
            refine H_put (i := 9) 60 (v := .int .i64 (233 * (k : Int) + 233)) rfl rfl (by kernel_rfl) (by kernel_rfl) (by kernel_rfl) (fun _ _ _ h => h) (Or.inl ⟨by rfl, fun w' hw' => ?_⟩) hS ?_
            · go_simp
            simp only [Act.put, List.setIfInBounds_toArray, List.set_cons_zero, List.set_cons_succ]
            refine H_put (i := 10) 61 (v := .slice (some ⟨gb, 233 * k, none⟩) 233 (bc - 233 * k)) rfl rfl (by kernel_rfl) (by kernel_rfl) (by kernel_rfl) (fun _ _ _ h => h) (Or.inl ⟨by rfl, fun w' hw' => ?_⟩) hS ?_
            · have q := hmid w'; go_simp
            simp only [Act.put, List.setIfInBounds_toArray, List.set_cons_zero, List.set_cons_succ]
            refine H_call (i := 4) 55 53 #[Ptr q, .int .i64 ((us : Int) + (k : Int))] (by kernel_rfl) rfl rfl (by rfl) (by go_simp) (HMk.out wr.drew k hlt (cellOf HBX.out 3) _ (by rfl)) ?_
            rintro e _ ⟨rfl, hw⟩
            rw [hw]
            clear hw
            have hS2 : (fun w' : World => Adds wr w') _ := hS
            refine ⟨_, _, rfl, hS2, fun w' h => h, ?_⟩
            clear hS; have hS := hS2; clear hS2
            simp only [Act.put, List.setIfInBounds_toArray, List.set_cons_zero, List.set_cons_succ]
            refine H_call (i := 11) 62 52 #[.int .u64 (W.mark ep (us + k) : Int), .int .u8 2, .slice (some ⟨gb, 233 * k, none⟩) 233 (bc - 233 * k)] (by kernel_rfl) rfl rfl (by rfl) (by go_simp) (HWp.out wr.drew (Touch.refl _ wr).drew) ?_
            rintro e w3 ⟨ay, cy, rfl, hA3, hD3⟩
            have H3 := hid (And.intro hA3 ((Touch.refl _ wr).drew.trans hD3))
            clear hA3 hD3
            have hS2 : (fun w' : World => Adds wr w') _ := H3.out.2
            refine ⟨_, _, rfl, hS2, fun w' h => h, ?_⟩
            clear hS; have hS := hS2; clear hS2
            simp only [Act.put, List.setIfInBounds_toArray, List.set_cons_zero, List.set_cons_succ]
            refine H_put (i := 12) 50 (v := .tuple #[.slice ay 256 cy, .int .i64 0]) rfl rfl (by kernel_rfl) (by kernel_rfl) (by kernel_rfl) (fun _ _ _ h => h) (Or.inl ⟨by rfl, fun w' hw' => ?_⟩) hS ?_
            · go_simp
            simp only [Act.put, List.setIfInBounds_toArray, List.set_cons_zero, List.set_cons_succ]
            refine H_put (i := 13) 63 (v := .slice ay 256 cy) rfl rfl (by kernel_rfl) (by kernel_rfl) (by kernel_rfl) (fun _ _ _ h => h) (Or.inl ⟨by rfl, fun w' hw' => ?_⟩) hS ?_
            · go_simp
            simp only [Act.put, List.setIfInBounds_toArray, List.set_cons_zero, List.set_cons_succ]
            refine H_put (i := 14) 64 (v := .int .i64 0) rfl rfl (by kernel_rfl) (by kernel_rfl) (by kernel_rfl) (fun _ _ _ h => h) (Or.inl ⟨by rfl, fun w' hw' => ?_⟩) hS ?_
            · go_simp
            simp only [Act.put, List.setIfInBounds_toArray, List.set_cons_zero, List.set_cons_succ]
            refine H_put (i := 15) 9 (v := .slice ay 256 cy) rfl rfl (by kernel_rfl) (by kernel_rfl) (by kernel_rfl) (fun _ _ _ h => h) (Or.inl ⟨by rfl, fun w' hw' => ?_⟩) hS ?_
            · go_simp
            simp only [Act.put, List.setIfInBounds_toArray, List.set_cons_zero, List.set_cons_succ]
            refine H_put (i := 16) 10 (v := .int .i64 0) rfl rfl (by kernel_rfl) (by kernel_rfl) (by kernel_rfl) (fun _ _ _ h => h) (Or.inl ⟨by rfl, fun w' hw' => ?_⟩) hS ?_
            · go_simp
            simp only [Act.put, List.setIfInBounds_toArray, List.set_cons_zero, List.set_cons_succ]
            refine wpAnyH_done (by kernel_rfl) ?_ _
            clear hS hmid
            go_upto_region 18 with fail
            have HB3 := hid (H3.out.2.at' HBX.out id)
            refine H_begin (S := fun w' : World => w'.heap[q]? = some (.cells #[Ptr rp, .int .i64 (fr : Int), .int .i64 (L.ct : Int), .int .i64 (ep : Int), .bool false, .slice la tn lc, .slice s.a m s.cap] 67 (0, 0))) (by kernel_rfl) ?_
            have hS : (fun w' : World => w'.heap[q]? = some (.cells #[Ptr rp, .int .i64 (fr : Int), .int .i64 (L.ct : Int), .int .i64 (ep : Int), .bool false, .slice la tn lc, .slice s.a m s.cap] 67 (0, 0))) w3.drew := HB3.out
            refine H_put (i := 0) 65 (v := Ptr q) rfl rfl (by kernel_rfl) (by kernel_rfl) (by kernel_rfl) (fun _ _ _ h => h) (Or.inl ⟨by rfl, fun w' hw' => ?_⟩) hS ?_
            · go_simp
            simp only [Act.put, List.setIfInBounds_toArray, List.set_cons_zero, List.set_cons_succ]
            refine H_put (i := 1) 66 (v := Ptr q) rfl rfl (by kernel_rfl) (by kernel_rfl) (by kernel_rfl) (fun _ _ _ h => h) (Or.inl ⟨by rfl, fun w' hw' => ?_⟩) hS ?_
            · go_simp
            simp only [Act.put, List.setIfInBounds_toArray, List.set_cons_zero, List.set_cons_succ]
            refine H_put (i := 2) 67 (v := .pointer (some ⟨q, 0, none⟩)) rfl rfl (by kernel_rfl) (by kernel_rfl) (by kernel_rfl) (fun _ _ _ h => h) (Or.inl ⟨by rfl, fun w' hw' => ?_⟩) hS ?_
            · go_simp
            simp only [Act.put, List.setIfInBounds_toArray, List.set_cons_zero, List.set_cons_succ]
            refine H_put (i := 3) 68 (v := Ptr rp) rfl rfl (by kernel_rfl) (by kernel_rfl) (by kernel_rfl) (fun _ _ _ h => h) (Or.inl ⟨by rfl, fun w' hw' => ?_⟩) hS ?_
            · have c : w'.cell? ⟨q, 0, none⟩ = some (Ptr rp) := cellOf hw' 0; go_simp
            simp only [Act.put, List.setIfInBounds_toArray, List.set_cons_zero, List.set_cons_succ]
            refine H_put (i := 4) 69 (v := Ptr q) rfl rfl (by kernel_rfl) (by kernel_rfl) (by kernel_rfl) (fun _ _ _ h => h) (Or.inl ⟨by rfl, fun w' hw' => ?_⟩) hS ?_
            · go_simp
            simp only [Act.put, List.setIfInBounds_toArray, List.set_cons_zero, List.set_cons_succ]
            refine H_put (i := 5) 70 (v := Ptr q) rfl rfl (by kernel_rfl) (by kernel_rfl) (by kernel_rfl) (fun _ _ _ h => h) (Or.inl ⟨by rfl, fun w' hw' => ?_⟩) hS ?_
            · go_simp
            simp only [Act.put, List.setIfInBounds_toArray, List.set_cons_zero, List.set_cons_succ]
            refine H_put (i := 6) 71 (v := .pointer (some ⟨q, 1, none⟩)) rfl rfl (by kernel_rfl) (by kernel_rfl) (by kernel_rfl) (fun _ _ _ h => h) (Or.inl ⟨by rfl, fun w' hw' => ?_⟩) hS ?_
            · go_simp
            simp only [Act.put, List.setIfInBounds_toArray, List.set_cons_zero, List.set_cons_succ]
            refine H_put (i := 7) 72 (v := .int .i64 (fr : Int)) rfl rfl (by kernel_rfl) (by kernel_rfl) (by kernel_rfl) (fun _ _ _ h => h) (Or.inl ⟨by rfl, fun w' hw' => ?_⟩) hS ?_
            · have c : w'.cell? ⟨q, 1, none⟩ = some (.int .i64 (fr : Int)) := cellOf hw' 1; go_simp
            simp only [Act.put, List.setIfInBounds_toArray, List.set_cons_zero, List.set_cons_succ]
            refine H_put (i := 8) 73 (v := .int .i64 (us : Int)) rfl rfl (by kernel_rfl) (by kernel_rfl) (by kernel_rfl) (fun _ _ _ h => h) (Or.inl ⟨by rfl, fun w' hw' => ?_⟩) hS ?_
            · go_simp
            simp only [Act.put, List.setIfInBounds_toArray, List.set_cons_zero, List.set_cons_succ]
            refine H_put (i := 9) 74 (v := .int .i64 ((fr : Int) + (us : Int))) rfl rfl (by kernel_rfl) (by kernel_rfl) (by kernel_rfl) (fun _ _ _ h => h) (Or.inl ⟨by rfl, fun w' hw' => ?_⟩) hS ?_
            · go_simp; rw [IntKind.wrap_i64]; omega
            simp only [Act.put, List.setIfInBounds_toArray, List.set_cons_zero, List.set_cons_succ]
            refine H_put (i := 10) 75 (v := .int .i64 (k : Int)) rfl rfl (by kernel_rfl) (by kernel_rfl) (by kernel_rfl) (fun _ _ _ h => h) (Or.inl ⟨by rfl, fun w' hw' => ?_⟩) hS ?_
            · go_simp
            simp only [Act.put, List.setIfInBounds_toArray, List.set_cons_zero, List.set_cons_succ]
            refine H_put (i := 11) 76 (v := .int .i64 ((fr : Int) + (us : Int) + (k : Int))) rfl rfl (by kernel_rfl) (by kernel_rfl) (by kernel_rfl) (fun _ _ _ h => h) (Or.inl ⟨by rfl, fun w' hw' => ?_⟩) hS ?_
            · go_simp; rw [IntKind.wrap_i64]; omega
            simp only [Act.put, List.setIfInBounds_toArray, List.set_cons_zero, List.set_cons_succ]
            refine H_put (i := 12) 77 (v := .slice ay 256 cy) rfl rfl (by kernel_rfl) (by kernel_rfl) (by kernel_rfl) (fun _ _ _ h => h) (Or.inl ⟨by rfl, fun w' hw' => ?_⟩) hS ?_
            · go_simp
            simp only [Act.put, List.setIfInBounds_toArray, List.set_cons_zero, List.set_cons_succ]
            have hcv := conv_at w3.drew ay (W.laid ep us g k) cy (H3.out.1.adds (Touch.refl _ w3).drew)
            rw [W.len_laid] at hcv
            refine H_do (i := 13) (some 78) (by kernel_rfl) rfl rfl (by rfl) (fun K hK => ?_)
            go_simp
            refine hK (.string ⟨(W.laid ep us g k).toArray⟩) _ hS ?_
            clear hK K hcv
            simp only [Act.put, List.setIfInBounds_toArray, List.set_cons_zero, List.set_cons_succ]
            refine H_call (i := 14) 79 54 #[Ptr rp, .int .i64 ((fr : Int) + (us : Int) + (k : Int)), .string ⟨(W.laid ep us g k).toArray⟩] (by kernel_rfl) rfl rfl (by rfl) (by go_simp) (HPt.out w3.drew (H3.out.2.trans (Touch.refl _ w3).drew) _ (by rfl)) ?_
            rintro e w4 ⟨rfl, H4⟩
            obtain ⟨OR2, r1, r2, r3⟩ := H4.out
            have HC4 := hid ((HI.out.2.2.2.adds (H3.out.2.trans (Touch.refl _ w3).drew)).turn r1 r2 r3)
            clear r1 r2 r3 H4
            have hS2 : (fun w' : World => w'.heap[q]? = some (.cells #[Ptr rp, .int .i64 (fr : Int), .int .i64 (L.ct : Int), .int .i64 (ep : Int), .bool false, .slice la tn lc, .slice s.a m s.cap] 67 (0, 0))) _ := HBx.out w4 OR2 D2 gb HC4.out
            refine ⟨_, _, rfl, hS2, fun w' h => h, ?_⟩
            clear hS; have hS := hS2; clear hS2
            simp only [Act.put, List.setIfInBounds_toArray, List.set_cons_zero, List.set_cons_succ]
            refine H_put (i := 15) 4 (v := .int .i64 zz) rfl rfl (by kernel_rfl) (by kernel_rfl) (by kernel_rfl) (fun _ _ _ h => h) (Or.inl ⟨by rfl, fun w' hw' => ?_⟩) hS ?_
            · go_simp
            simp only [Act.put, List.setIfInBounds_toArray, List.set_cons_zero, List.set_cons_succ]
            refine wpAnyH_done (by kernel_rfl) ?_ _
            clear hS
            go_wp2_with fail
            go_roundw
            case rel => exact ⟨k + 1, zz, D2, OR2, by omega, by go_num, rfl, HGo.out, HD2.out.1, HD2.out.2, HC4.out⟩
            case measure => simp [intOf]; omega
      · obtain rfl : k = n := by omega
        have hkl : bl ≤ 233 * k := by have := HB.out.2; omega
        have d9 : decide (233 * (k : Int) < (bl : Int)) = false := by simp; omega
        have d10 : decide (233 * k < bl) = false := by simp; omega
        have c0r : wr.cell? ⟨q, 0, none⟩ = some (Ptr rp) := cellOf HBX.out 0
        have HGX := hid (show goW (fW fr ep us g) 0 k D' = X by
          rcases HI.out.1 with ⟨_, c⟩ | ⟨c, _⟩
          · rw [Nat.sub_self] at c; exact c
          · cases c)
        by_cases hl : D'.left = 0
        · have HX := hid (show X = (10, D') by rw [← HGX.out, goW, if_pos hl])
          have HSy := hid (show Calls Tryz.prog 55 #[Ptr rp] wr (PRo wr OR' rp (10, D')) by have q := ro_sync HI.out.2.2.2.ro HI.out.2.1 (by have := HDD.out; omega); rw [if_pos hl] at q; exact q)
          clear hl
          go_wp2_with (first
            | (go_at_call 55; refine HSy.out.mono ?_; rintro e w5 ⟨rfl, H5⟩
               obtain ⟨OR2, r1, r2, r3⟩ := H5.out
               have HC5 := hid (HI.out.2.2.2.turn r1 r2 r3)
               have HB5 := hid (HBx.out w5 OR2 D' gb HC5.out)
               have c45 : w5.cell? ⟨q, 4, none⟩ = some (.bool false) := cellOf HB5.out 4
               have f45 : w5.frozen? ⟨q, 4, none⟩ = false := frozen_of_row w5 q 4 _ 67 HB5.out
               have c65 : w5.cell? ⟨q, 6, none⟩ = some (.slice s.a m s.cap) := cellOf HB5.out 6
               have f65 : w5.frozen? ⟨q, 6, none⟩ = false := frozen_of_row w5 q 6 _ 67 HB5.out
               clear r1 r2 r3 H5))
          go_ret
          rw [(HF1.out (by rw [HX.out])).1, (HF1.out (by rw [HX.out])).2.1, (HF1.out (by rw [HX.out])).2.2, HX.out]
          exact HC5.out.down 10
        · have HX := hid (show X = (0, D'.synced) by rw [← HGX.out, goW, if_neg hl])
          have HSy := hid (show Calls Tryz.prog 55 #[Ptr rp] wr (PRo wr OR' rp (0, D'.synced)) by have q := ro_sync HI.out.2.2.2.ro HI.out.2.1 (by have := HDD.out; omega); rw [if_neg hl] at q; exact q)
          clear hl
          go_upto_region 23 with (first
            | (go_at_call 55; refine HSy.out.mono ?_; rintro e w5 ⟨rfl, H5⟩
               obtain ⟨OR2, r1, r2, r3⟩ := H5.out
               have HC5 := hid (HI.out.2.2.2.turn r1 r2 r3)
               have HB5 := hid (HBx.out w5 OR2 D'.synced gb HC5.out)
               clear r1 r2 r3 H5))
          have HR7 := hid (show (w5.drew.alloc (.cells #[.slice s.a m s.cap] 61)).ownsRow 0 61 1 (.slice la tn lc) tn (t.map GV) by have q := row_touch HC5.out.isq.rows ((Touch.refl (fun _ => False) w5).drew.alloc (.cells #[.slice s.a m s.cap] 61)) (fun _ _ => id); rw [← HTN.out] at q; exact q)
          have HC7 := hid (show (w5.drew.alloc (.cells #[.slice s.a m s.cap] 61)).cell? ⟨w5.heap.size, 0, none⟩ = some (.slice s.a m s.cap) from cellOf (heap_alloc_new w5.drew _) 0)
          have HB7 := hid (((Touch.refl (fun _ => False) w5).drew.alloc (.cells #[.slice s.a m s.cap] 61)).at' HB5.out id)
          refine E_begin (S := fun w' : World => w'.heap[q]? = some (.cells #[Ptr rp, .int .i64 (fr : Int), .int .i64 (L.ct : Int), .int .i64 (ep : Int), .bool false, .slice la tn lc, .slice s.a m s.cap] 67 (0, 0))) (X := 13) (by kernel_rfl) ?_
          have hS : (fun w' : World => w'.heap[q]? = some (.cells #[Ptr rp, .int .i64 (fr : Int), .int .i64 (L.ct : Int), .int .i64 (ep : Int), .bool false, .slice la tn lc, .slice s.a m s.cap] 67 (0, 0))) w5.drew := HB5.out
          refine E_put (i := 0) 92 (v := Ptr q) rfl rfl (by kernel_rfl) (by kernel_rfl) (by kernel_rfl) (by kernel_rfl) (fun _ _ _ h => h) (Or.inl ⟨by rfl, fun w' hw' => ?_⟩) hS ?_
          · go_simp
          simp only [Act.put, List.setIfInBounds_toArray, List.set_cons_zero, List.set_cons_succ]
          refine E_put (i := 1) 93 (v := Ptr q) rfl rfl (by kernel_rfl) (by kernel_rfl) (by kernel_rfl) (by kernel_rfl) (fun _ _ _ h => h) (Or.inl ⟨by rfl, fun w' hw' => ?_⟩) hS ?_
          · go_simp
          simp only [Act.put, List.setIfInBounds_toArray, List.set_cons_zero, List.set_cons_succ]
          refine E_put (i := 2) 94 (v := Ptr q) rfl rfl (by kernel_rfl) (by kernel_rfl) (by kernel_rfl) (by kernel_rfl) (fun _ _ _ h => h) (Or.inl ⟨by rfl, fun w' hw' => ?_⟩) hS ?_
          · go_simp
          simp only [Act.put, List.setIfInBounds_toArray, List.set_cons_zero, List.set_cons_succ]
          refine E_put (i := 3) 95 (v := .pointer (some ⟨q, 5, none⟩)) rfl rfl (by kernel_rfl) (by kernel_rfl) (by kernel_rfl) (by kernel_rfl) (fun _ _ _ h => h) (Or.inl ⟨by rfl, fun w' hw' => ?_⟩) hS ?_
          · go_simp
          simp only [Act.put, List.setIfInBounds_toArray, List.set_cons_zero, List.set_cons_succ]
          refine E_put (i := 4) 96 (v := .slice la tn lc) rfl rfl (by kernel_rfl) (by kernel_rfl) (by kernel_rfl) (by kernel_rfl) (fun _ _ _ h => h) (Or.inl ⟨by rfl, fun w' hw' => ?_⟩) hS ?_
          · have c : w'.cell? ⟨q, 5, none⟩ = some (.slice la tn lc) := cellOf hw' 5; go_simp
          simp only [Act.put, List.setIfInBounds_toArray, List.set_cons_zero, List.set_cons_succ]
          refine E_put (i := 5) 97 (v := Ptr q) rfl rfl (by kernel_rfl) (by kernel_rfl) (by kernel_rfl) (by kernel_rfl) (fun _ _ _ h => h) (Or.inl ⟨by rfl, fun w' hw' => ?_⟩) hS ?_
          · go_simp
          simp only [Act.put, List.setIfInBounds_toArray, List.set_cons_zero, List.set_cons_succ]
          refine E_put (i := 6) 98 (v := Ptr q) rfl rfl (by kernel_rfl) (by kernel_rfl) (by kernel_rfl) (by kernel_rfl) (fun _ _ _ h => h) (Or.inl ⟨by rfl, fun w' hw' => ?_⟩) hS ?_
          · go_simp
          simp only [Act.put, List.setIfInBounds_toArray, List.set_cons_zero, List.set_cons_succ]
          refine E_put (i := 7) 99 (v := .pointer (some ⟨q, 6, none⟩)) rfl rfl (by kernel_rfl) (by kernel_rfl) (by kernel_rfl) (by kernel_rfl) (fun _ _ _ h => h) (Or.inl ⟨by rfl, fun w' hw' => ?_⟩) hS ?_
          · go_simp
          simp only [Act.put, List.setIfInBounds_toArray, List.set_cons_zero, List.set_cons_succ]
          refine E_put (i := 8) 100 (v := .slice s.a m s.cap) rfl rfl (by kernel_rfl) (by kernel_rfl) (by kernel_rfl) (by kernel_rfl) (fun _ _ _ h => h) (Or.inl ⟨by rfl, fun w' hw' => ?_⟩) hS ?_
          · have c : w'.cell? ⟨q, 6, none⟩ = some (.slice s.a m s.cap) := cellOf hw' 6; go_simp
          simp only [Act.put, List.setIfInBounds_toArray, List.set_cons_zero, List.set_cons_succ]
          refine E_do (i := 9) (some 101) (by kernel_rfl) rfl rfl rfl (fun K hK => ?_)
          go_simp
          refine hK (.slice (some ⟨w5.heap.size, 0, none⟩) 1 1) _ (fun _ => HB7.out) ?_
          clear hK K
          simp only [Act.put, List.setIfInBounds_toArray, List.set_cons_zero, List.set_cons_succ]
          refine E_do (i := 10) (some 102) (by kernel_rfl) rfl rfl rfl (fun K hK => ?_)
          refine wp_append_bb1 (.tmp 96) (.tmp 101) rfl (.slice la tn lc) tn (t.map GV) rfl HR7.out w5.heap.size (.slice s.a m s.cap) rfl HC7.out rfl (by omega) ?_
          intro v8 w8 G8
          obtain ⟨va8, vc8, hv8, _, _, _⟩ := own_cq G8.1
          subst hv8
          have HB8 := hid (G8.touch.at' HB7.out HC5.out.isq.apart)
          have HG8 := hid G8
          clear G8
          refine hK (.slice va8 (tn + 1) vc8) _ (fun _ => HB8.out) ?_
          clear hK K
          simp only [Act.put, List.setIfInBounds_toArray, List.set_cons_zero, List.set_cons_succ]
          refine E_do (i := 11) (some 103) (by kernel_rfl) rfl rfl rfl (fun K hK => ?_)
          go_simp
          refine hK (.pointer (some ⟨q, 0, none⟩)) _ (fun _ => HB8.out) ?_
          clear hK K
          simp only [Act.put, List.setIfInBounds_toArray, List.set_cons_zero, List.set_cons_succ]
          refine E_do (i := 12) (some 104) (by kernel_rfl) rfl rfl rfl (fun K hK => ?_)
          go_simp
          refine hK (.pointer (some ⟨q, 5, none⟩)) _ (fun _ => HB8.out) ?_
          clear hK K
          simp only [Act.put, List.setIfInBounds_toArray, List.set_cons_zero, List.set_cons_succ]
          refine E_do (i := 13) none (by kernel_rfl) rfl rfl rfl (fun K hK => ?_)
          have c58 : w8.cell? ⟨q, 5, none⟩ = some (.slice la tn lc) := cellOf HB8.out 5
          have f58 : w8.frozen? ⟨q, 5, none⟩ = false := frozen_of_row w8 q 5 _ 67 HB8.out
          go_simp
          refine hK (undef) _ (fun h => absurd rfl h) ?_
          clear hK K
          simp only [Act.put]
          refine E_done (by kernel_rfl) ?_ _
          obtain ⟨w9, hw9⟩ : ∃ w9, w9 = w8.setCell ⟨q, 5, none⟩ (.slice va8 (tn + 1) vc8) := ⟨_, rfl⟩
          rw [← hw9]
          have HW9 := hid hw9
          have HB9 := hid (show w9.heap[q]? = some (.cells #[Ptr rp, .int .i64 (fr : Int), .int .i64 (L.ct : Int), .int .i64 (ep : Int), .bool false, .slice va8 (tn + 1) vc8, .slice s.a m s.cap] 67 (0, 0)) by rw [hw9, setCell_eq_setRow w8 q 5 _ 67 _ _ HB8.out, setRow_heap w8 q _ _ 67 _ HB8.out]; rfl)
          have c69 : w9.cell? ⟨q, 6, none⟩ = some (.slice s.a m s.cap) := cellOf HB9.out 6
          have f69 : w9.frozen? ⟨q, 6, none⟩ = false := frozen_of_row w9 q 6 _ 67 HB9.out
          clear hw9 c58 f58 hS
          go_wp2_with fail
          go_ret
          rw [(HF0.out (by rw [HX.out])).1, (HF0.out (by rw [HX.out])).2.1, (HF0.out (by rw [HX.out])).2.2, HX.out, HW9.out]
          exact HC5.out.up HRec.out ((Touch.refl _ w5).drew.alloc _) (by have q := HG8.out; rw [HTN.out] at q; rw [GV, ← HNM.out.2.2]; rw [HTN.out]; exact q)
    · have hz10 : z = 10 := by
        rcases HI.out.1 with ⟨c, _⟩ | ⟨c, _⟩
        · exact absurd c hz
        · exact c
      subst hz10
      have HX := hid (show X = (10, D') by
        rcases HI.out.1 with ⟨c, _⟩ | ⟨_, c⟩
        · cases c
        · exact c)
      have c45 : wr.cell? ⟨q, 4, none⟩ = some (.bool false) := cellOf HBX.out 4
      have f45 : wr.frozen? ⟨q, 4, none⟩ = false := frozen_of_row wr q 4 _ 67 HBX.out
      have c65 : wr.cell? ⟨q, 6, none⟩ = some (.slice s.a m s.cap) := cellOf HBX.out 6
      have f65 : wr.frozen? ⟨q, 6, none⟩ = false := frozen_of_row wr q 6 _ 67 HBX.out
      clear hz
      by_cases hkl : 233 * k < bl
      · have d9 : decide (233 * (k : Int) < (bl : Int)) = true := by simp; omega
        have d10 : decide (233 * k < bl) = true := by simp; omega
        go_wp2_with fail
        go_ret
        rw [(HF1.out (by rw [HX.out])).1, (HF1.out (by rw [HX.out])).2.1, (HF1.out (by rw [HX.out])).2.2, HX.out]
        exact HI.out.2.2.2.down 10
      · have d9 : decide (233 * (k : Int) < (bl : Int)) = false := by simp; omega
        have d10 : decide (233 * k < bl) = false := by simp; omega
        go_wp2_with fail
        go_ret
        rw [(HF1.out (by rw [HX.out])).1, (HF1.out (by rw [HX.out])).2.1, (HF1.out (by rw [HX.out])).2.2, HX.out]
        exact HI.out.2.2.2.down 10
set_option maxRecDepth 100000 in
theorem q_commit {w : World} {OQ OR : Nat → Prop} {q rp : Nat} {vL : Value} {t : List Pl} {s : Pl} {L : LS} {D : dSt} {n0 : Nat} (h : IsQ w OQ q rp vL t s L) (hR : IsRO w OR rp D) (hap : ∀ k, OQ k → ¬ OR k) (hlt : ∀ k, OQ k ∨ OR k → k < w.heap.size) (hk : L.Ok) (hct : L.ct ≤ 17) (hdk : DOk D n0) (hn0 : n0 + L.ct ≤ 800) (hsz : L.fr + L.ct ≤ D.size) :
    Calls Tryz.prog 24 #[Ptr q] w (PCq w OQ OR q rp (comL L D) (comD L D) (comE L D)) := by
  by_cases hcl : L.cl = true
  · rw [comL, comD, comE, if_pos hcl, if_pos hcl, if_pos hcl]
    exact q_commit_no h hR hap 42 (.inl ⟨hcl, rfl⟩)
  · by_cases hRn : L.R = []
    · rw [comL, comD, comE, if_neg hcl, if_neg hcl, if_neg hcl, if_pos hRn, if_pos hRn, if_pos hRn]
      exact q_commit_no h hR hap 0 (.inr ⟨by simpa using hcl, hRn, rfl⟩)
    · exact q_commit_yes h hR hap hlt hk hct hdk hn0 hsz (by simpa using hcl) hRn
end Go.Proofs.YtllkplanjfnnmaaGreatDoor
