/- A row as bytes, and back. -/
import Derived.Test.YtkkmbpcmkhikkaaSame
namespace Go.Proofs.Ytkkmbpcmkhikkaa
open Go.RowKit

namespace M
/-- What values are put as, one behind the other. -/
def puts : List V → List UInt8
  | [] => []
  | v :: r => put v ++ puts r
theorem puts_append : ∀ r s : List V, puts (r ++ s) = puts r ++ puts s
  | [], s => rfl
  | v :: r, s => by simp only [List.cons_append, puts, puts_append r s, List.append_assoc]
theorem puts_take {r : List V} {i : Nat} {v : V} (h : r[i]? = some v) : puts (r.take (i + 1)) = puts (r.take i) ++ put v := by
  rw [List.take_add_one, h, puts_append]
  simp [puts]
theorem puts_drop {r : List V} {i : Nat} {v : V} (h : r[i]? = some v) : puts (r.drop i) = put v ++ puts (r.drop (i + 1)) := by
  obtain ⟨h1, e1⟩ := List.getElem?_eq_some_iff.1 h
  rw [List.drop_eq_getElem_cons h1, e1]; rfl
theorem len_puts : ∀ {r : List V}, (∀ v ∈ r, v.Ok) → (puts r).length ≤ 75 * r.length
  | [], _ => by simp [puts]
  | v :: r, h => by
    have h1 := len_put (h v (List.mem_cons_self ..))
    have h2 := len_puts (r := r) (fun u hu => h u (List.mem_cons_of_mem _ hu))
    simp only [puts, List.length_append, List.length_cons]; omega
theorem pr_ok {r : List V} (h : ∀ v ∈ r, v.Ok) : ∀ v ∈ pr r, v.Ok := by
  intro v hv
  obtain ⟨u, hu, rfl⟩ := List.mem_map.1 hv
  exact (plain_is (h u hu)).ok
theorem pr_pr {r : List V} (h : ∀ v ∈ r, v.Ok) : pr (pr r) = pr r := by
  unfold pr
  rw [List.map_map]
  apply List.map_congr_left
  intro v hv
  exact plain_plain (plain_is (h v hv))
theorem rcmp_plain {r : List V} (h : ∀ v ∈ r, v.Ok) : rcmp (pr r) r = 0 := (rcmp_eq (pr_ok h) h).2 (pr_pr h)
end M
/-- What a put makes. -/
def PPut (w : World) (l : List UInt8) (e : Ending) (w' : World) : Prop := ∃ a cap, e = .returned (.slice a l.length cap) ∧ Hid (Lies w' w'.heap.size a l cap ∧ w'.ownsRow w.heap.size 5 1 (.slice a l.length cap) l.length (S l) ∧ Adds w w')
theorem POwn.put {w w' : World} {l : List UInt8} {e : Ending} (h : POwn w l e w') : PPut w l e w' := by
  obtain ⟨v, rfl, h1, h2⟩ := h
  obtain ⟨a, cap, rfl, hL⟩ := Own.lies h1
  exact ⟨a, cap, rfl, hL, h1, h2⟩
theorem own_app {w : World} {base : Nat} {v : Value} {k ls l : List UInt8} (hl : l = k ++ ls) (h : w.ownsRow base 5 1 v (k.length + ls.length) (S k ++ S ls)) : w.ownsRow base 5 1 v l.length (S l) := by
  subst hl
  rw [List.length_append, S, List.map_append]
  exact h
theorem put_z (v : M.V) (hv : v.Ok) (l : List UInt8) (h : M.put v = l) (w : World) : Calls Try.prog 31 #[.slice none 0 0, .agg #[.int .i64 v.k, .int .i64 v.n, .float .f64 v.b, .string ⟨v.t.toArray⟩]] w (PPut w l) := by
  subst h
  exact (put_any v hv w).mono fun _ _ h => h.put
theorem putUint_z (n : Nat) (hn : n < 18446744073709551616) (w : World) : Calls Try.prog 30 #[.slice none 0 0, .int .u64 (n : Int)] w (POwn w (M.enc n)) := putUint_any none [] 0 n w (by simp) hn (fun _ => rfl) (At.nil _ _)
set_option maxRecDepth 100000 in
set_option maxHeartbeats 1000000 in
theorem rowPut_any (x : Hd) (w : World) (hx : IsRow w x) (ho : ∀ v ∈ x.r, v.Ok) (hl : x.r.length ≤ 200) : Calls Try.prog 15 #[.slice none 0 0, .slice x.a x.r.length x.cap] w (PPut w (M.enc x.r.length ++ M.puts x.r)) := by
  obtain ⟨a, ca, r⟩ := x
  have HX := hid (show VAt w a r from hx.at_)
  have HO := hid (show ∀ v ∈ r, v.Ok from ho)
  have hs := hst
  have hl : r.length ≤ 200 := hl
  clear hx ho
  show Calls Try.prog 15 #[.slice none 0 0, .slice a r.length ca] w (PPut w (M.enc r.length ++ M.puts r))
  have HE := hid (M.len_enc10 (n := r.length) (by omega))
  go_enter Try.func15, Try.ntmps15
  go_upto_region 3 with (first | (go_at_call 30; refine (putUint_z r.length (by omega) _).mono ?_; rintro e w1 ⟨v1, rfl, h1, h2⟩; have P1 := hid (And.intro h1 h2); clear h1 h2))
  go_loopw [5, 15] (fun vv iv wr => ∃ (k : Nat) (pk : List UInt8), iv = .int .i64 (k : Int) ∧ k ≤ r.length ∧ Hid (pk = M.enc r.length ++ M.puts (r.take k) ∧ wr.ownsRow w.heap.size 5 1 vv pk.length (S pk) ∧ Adds w wr)) (fun _ iv _ => r.length - (intOf iv).toNat)
  case atStart => exact ⟨0, M.enc r.length, rfl, Nat.zero_le _, by simp [M.puts], P1.out.1, P1.out.2⟩
  case round =>
    obtain ⟨k, pk, rfl, hk, HI⟩ := hrel
    by_cases hlt : k < r.length
    · have hltz : (k : Int) < (r.length : Int) := by omega
      obtain ⟨u, hu⟩ : ∃ u, r[k]? = some u := ⟨r[k], List.getElem?_eq_getElem hlt⟩
      have HN := hid (M.puts_take hu)
      have huo := HO.out u (List.mem_of_getElem? hu)
      obtain ⟨b, o, ea, hc⟩ := (HX.out.adds HI.out.2.2).get hu
      subst ea
      obtain ⟨c0, c1, c2, c3⟩ := hc wr (Touch.refl _ _)
      obtain ⟨pu, hpu⟩ : ∃ l, M.put u = l := ⟨_, rfl⟩
      have HPU := hid (put_z u huo pu hpu)
      have HL := hid (show pk.length + pu.length ≤ 140737488355328 by
        have e1 := M.len_put huo
        have e2 := HE.out
        have e3 := M.len_puts (r := r.take k) (fun v hv => HO.out v (List.mem_of_mem_take hv))
        rw [List.length_take] at e3
        rw [HI.out.1, ← hpu, List.length_append]
        omega)
      rw [hpu] at HN
      clear hu hc huo hpu
      go_wp2_with (first
        | (go_at_call 31; refine (HPU.out _).mono ?_; rintro e w2 ⟨a2, cap2, rfl, P2⟩; have A2 := hid (show Adds wr w2 from Touch.trans ((Touch.refl _ wr).alloc _) P2.out.2.2))
        | (at_builtin; refine append_bytes rfl _ _ rfl w.heap.size _ pk.length (S pk) rfl (own_keep HI.out.2.1 A2.out) a2 pu cap2 rfl P2.out.1.non P2.out.1.at_ HL.out (Nat.le_trans HI.out.2.2.size A2.out.size) ?_; intro v3 w3 hown hgrow hne; have P3 := hid (show w3.ownsRow w.heap.size 5 1 v3 (pk ++ pu).length (S (pk ++ pu)) ∧ Adds w w3 from ⟨own_app rfl hown, Touch.grown (HI.out.2.2.trans A2.out) hgrow (fun j hj hlt => by have := (HI.out.2.1.lt j hj).1; omega)⟩); clear hown hgrow hne))
      go_roundw
      case rel => exact ⟨k + 1, pk ++ pu, by go_num, by omega, by rw [HN.out, HI.out.1, List.append_assoc], P3.out.1, P3.out.2⟩
      case measure => simp [intOf]; omega
    · have hltz : ¬ (k : Int) < (r.length : Int) := by omega
      go_wp2_with fail
      go_ret
      have e : pk = M.enc r.length ++ M.puts r := by rw [HI.out.1, List.take_of_length_le (by omega)]
      rw [← e]
      exact POwn.put ⟨_, rfl, HI.out.2.1, HI.out.2.2⟩
/-- A reader, while blocks behind it turn. -/
theorem RD.high {w w' : World} {T : Nat → Prop} {p : Nat} {s : M.St} (h : RD w (.pointer (some ⟨p, 0, none⟩)) s) (hT : Touch T w w') (hn : ∀ k, T k → p < k) : RD w' (.pointer (some ⟨p, 0, none⟩)) s := by
  rcases h with ⟨e, _⟩ | ⟨q, e, hb, hs⟩ | ⟨q, e, hR⟩
  · cases e
  · obtain rfl : p = q := by simpa using e
    exact .inr (.inl ⟨p, rfl, by rw [hT.block p (lt_of_heap hb) (fun c => absurd (hn p c) (Nat.lt_irrefl _))]; exact hb, hs⟩)
  · obtain rfl : p = q := by simpa using e
    obtain ⟨a, cap, hb, hL⟩ := hR.box
    refine .inr (.inr ⟨p, rfl, ⟨⟨a, cap, by rw [hT.block p (lt_of_heap hb) (fun c => absurd (hn p c) (Nat.lt_irrefl _))]; exact hb, ⟨hL.at_.block (fun b o ea hlt => hT.block b hlt (fun c => ?_)), hL.room, hL.non, hL.low⟩⟩, hR.good, hR.len, hR.err⟩⟩)
    have h1 : b < p := (hL.low _ ea).2
    have h2 := hn b c
    omega
theorem own_touch {w w' : World} {T : Nat → Prop} {base e size n : Nat} {v : Value} {xs : List Value} (h : w.ownsRow base e size v n xs) (hT : Touch T w w') (hn : ∀ k, T k → k < base) : w'.ownsRow base e size v n xs := by
  refine ⟨h.1, ?_⟩
  rcases h.2 with h | ⟨g, cap, cur, rfl, hb, hg, h3⟩
  · exact .inl h
  · exact .inr ⟨g, cap, cur, rfl, hb, by rw [hT.block g (lt_of_heap hg) (fun c => by have := hn g c; omega)]; exact hg, h3⟩
theorem own1 {p k : Nat} (h : Own1 (.pointer (some ⟨p, 0, none⟩)) k) : k = p := by
  simp only [Own1, Value.pointer.injEq, Option.some.injEq, Addr.mk.injEq] at h
  omega
theorem cat_one {w : World} {q : M.V} {g : Nat} {fr : Nat × Nat} (h : w.heap[g]? = some (.cells #[.int .i64 q.k, .int .i64 q.n, .float .f64 q.b, .string ⟨q.t.toArray⟩] 47 fr)) : CAt w (some ⟨g, 0, none⟩) (SV [q]) := by
  intro j u hj
  refine ⟨g, 0, rfl, ?_⟩
  rw [Nat.zero_add, cellOf h j]
  simpa [SV, cells4] using hj
theorem SV_take {r : List M.V} {k : Nat} {u : M.V} (h : r[k]? = some u) : SV (r.take (k + 1)) = SV (r.take k) ++ SV [u] := by
  rw [List.take_add_one, h, SV_append]; rfl
/-- What is taken of a row. -/
def PTakeR (w : World) (p : Nat) (r : List M.V) (l : List UInt8) (e : Ending) (w' : World) : Prop := ∃ a cap, e = .returned (.tuple #[.slice a r.length cap, .int .i64 0]) ∧ Hid (IsRow w' ⟨a, cap, r⟩ ∧ RD w' (.pointer (some ⟨p, 0, none⟩)) ⟨0, l⟩ ∧ Touch (Own1 (.pointer (some ⟨p, 0, none⟩))) w w')
theorem take_z (u : M.V) (hu : u.Ok) (q : M.V) (hq : M.plain u = q) (pu l : List UInt8) (hp : M.put u = pu) {p : Nat} {w : World} (h : RD w (.pointer (some ⟨p, 0, none⟩)) ⟨0, pu ++ l⟩) : Calls Try.prog 34 #[.pointer (some ⟨p, 0, none⟩)] w (PTaken w p (.agg #[.int .i64 q.k, .int .i64 q.n, .float .f64 q.b, .string ⟨q.t.toArray⟩]) l) := by
  subst hq hp
  exact take_put u hu h
theorem uint_z {n : Nat} {l : List UInt8} {p : Nat} {w : World} (hn : n ≤ 200) (h : RD w (.pointer (some ⟨p, 0, none⟩)) ⟨0, M.enc n ++ l⟩) : Calls Try.prog 32 #[.pointer (some ⟨p, 0, none⟩), .int .u64 200] w (PR w (.pointer (some ⟨p, 0, none⟩)) (.int .u64 (n : Int)) ⟨0, l⟩) := by
  have h1 := uint_any 200 h
  rw [M.uintR_ok (n := n) (r := l) rfl (M.scan_put n (by omega) l) (by omega)] at h1
  exact h1
set_option maxRecDepth 100000 in
set_option maxHeartbeats 2000000 in
theorem rowTake_any (vs : List M.V) (ho : ∀ v ∈ vs, v.Ok) (hl : vs.length ≤ 200) (p : Nat) (tl : List UInt8) (w : World) (hR : RD w (.pointer (some ⟨p, 0, none⟩)) ⟨0, M.enc vs.length ++ (M.puts vs ++ tl)⟩) : Calls Try.prog 16 #[.pointer (some ⟨p, 0, none⟩)] w (PTakeR w p (M.pr vs) tl) := by
  have HO := hid ho
  have HP := hid hR.lt
  have HR := hid hR
  have hs := hst
  clear ho hR
  go_enter Try.func16, Try.ntmps16
  go_upto_region 6 with (first
    | (go_at_call 32; refine (uint_z hl HR.out).mono ?_; rintro e w1 ⟨rfl, h1, h2⟩; have R1 := hid h1; have T1 := hid h2; clear h1 h2)
    | (go_at_call 33; refine (err_none R1.out).mono ?_; rintro e w' ⟨rfl, hw⟩; obtain rfl := hw.symm))
  go_loopw [5, 16] (fun vv iv wr => ∃ (k : Nat) (rest : List UInt8), iv = .int .u64 (k : Int) ∧ k ≤ vs.length ∧ Hid (rest = M.puts (vs.drop k) ++ tl ∧ wr.ownsRow w.heap.size 47 4 vv k (SV ((M.pr vs).take k)) ∧ RD wr (.pointer (some ⟨p, 0, none⟩)) ⟨0, rest⟩ ∧ Touch (Own1 (.pointer (some ⟨p, 0, none⟩))) w wr)) (fun _ iv _ => vs.length - (intOf iv).toNat)
  case atStart => exact ⟨0, M.puts vs ++ tl, rfl, Nat.zero_le _, rfl, World.ownsRow_nil _ _ _ _, R1.out, T1.out⟩
  case round =>
    obtain ⟨k, rest, rfl, hk, HI⟩ := hrel
    by_cases hlt : k < vs.length
    · have hltz : (k : Int) < (vs.length : Int) := by omega
      obtain ⟨u, hu⟩ : ∃ u, vs[k]? = some u := ⟨vs[k], List.getElem?_eq_getElem hlt⟩
      have huo := HO.out u (List.mem_of_getElem? hu)
      obtain ⟨pu, hpu⟩ : ∃ l, M.put u = l := ⟨_, rfl⟩
      obtain ⟨q, hq⟩ : ∃ q, M.plain u = q := ⟨_, rfl⟩
      obtain ⟨nx, hnx⟩ : ∃ l, M.puts (vs.drop (k + 1)) ++ tl = l := ⟨_, rfl⟩
      have HQ := hid (show (M.pr vs)[k]? = some q by unfold M.pr; rw [List.getElem?_map, hu, ← hq]; rfl)
      have HT := hid (take_z u huo q hq pu nx hpu (p := p) (w := wr) (by
        have e := HI.out.1
        rw [M.puts_drop hu, hpu, List.append_assoc, hnx] at e
        rw [← e]; exact HI.out.2.2.1))
      have HNX := hid hnx
      clear hu huo hpu hq hnx
      go_wp2_with (first
        | (go_at_call 34; refine HT.out.mono ?_; rintro e w2 ⟨rfl, h1, h2⟩; have R2 := hid h1; have T2 := hid h2; clear h1 h2)
        | (at_builtin
           have O2 := hid (own_touch HI.out.2.1 T2.out (fun j hj => by rw [own1 hj]; exact HP.out))
           have hsz : w.heap.size ≤ w2.heap.size := Nat.le_trans HI.out.2.2.2.size T2.out.size
           refine append_v rfl _ _ rfl w.heap.size _ k (SV ((M.pr vs).take k)) rfl (own_keep O2.out (show Adds w2 ((w2.alloc (.cells #[.int .i64 q.k, .int .i64 q.n, .float .f64 q.b, .string ⟨q.t.toArray⟩] 47)).alloc (.cells #[.int .i64 q.k, .int .i64 q.n, .float .f64 q.b, .string ⟨q.t.toArray⟩] 47)) from ((Touch.refl _ w2).alloc _).alloc _)) (some ⟨w2.heap.size + 1, 0, none⟩) [q] 1 rfl (fun e => (by cases e)) (cat_one (by have := heap_alloc_new (w2.alloc (.cells #[.int .i64 q.k, .int .i64 q.n, .float .f64 q.b, .string ⟨q.t.toArray⟩] 47)) (.cells #[.int .i64 q.k, .int .i64 q.n, .float .f64 q.b, .string ⟨q.t.toArray⟩] 47); simpa using this)) (by simp; omega) (by simp; omega) ?_
           intro v3 w3 hown hgrow
           have P3 := hid (show w3.ownsRow w.heap.size 47 4 v3 (k + 1) (SV ((M.pr vs).take (k + 1))) ∧ RD w3 (.pointer (some ⟨p, 0, none⟩)) ⟨0, nx⟩ ∧ Touch (Own1 (.pointer (some ⟨p, 0, none⟩))) w w3 from ⟨by rw [SV_take HQ.out]; exact hown, by
             have t1 := Touch.grown (T := fun j => w.heap.size ≤ j) (Touch.refl _ _) hgrow (fun j hj _ => (O2.out.lt j hj).1)
             exact (R2.out.adds (((Touch.refl _ w2).alloc _).alloc _)).high t1 (fun j hj => Nat.lt_of_lt_of_le HP.out hj), by
             have t0 := HI.out.2.2.2.trans T2.out
             exact Touch.grown ((t0.alloc _).alloc _) hgrow (fun j hj hlt => by have := (O2.out.lt j hj).1; omega)⟩)
           clear hown hgrow hsz))
      go_roundw
      case rel => exact ⟨k + 1, nx, by go_num, by omega, HNX.out.symm, P3.out.1, P3.out.2.1, P3.out.2.2⟩
      case measure => simp [intOf]; omega
    · have hltz : ¬ (k : Int) < (vs.length : Int) := by omega
      obtain rfl : k = vs.length := by omega
      have hpl : (M.pr vs).length = vs.length := by simp [M.pr]
      have HF := hid (show u5 = .slice none 0 0 ∧ vs.length = 0 ∨ ∃ g cap, u5 = .slice (some ⟨g, 0, none⟩) vs.length cap by
        rcases HI.out.2.1.2 with ⟨e, h0⟩ | ⟨g, cap, _, e, _⟩
        · exact .inl ⟨e, h0⟩
        · exact .inr ⟨g, cap, e⟩)
      have HE := hid (show rest = tl by rw [HI.out.1, List.drop_of_length_le (Nat.le_refl _)]; rfl)
      rcases HF.out with ⟨rfl, h0⟩ | ⟨g, cap, rfl⟩
      · go_wp2_with fail
        go_ret2
        refine ⟨none, 0, by rw [hpl, h0]; rfl, ⟨?_, by simp only [hpl]; omega, fun _ => rfl⟩, by rw [← HE.out]; exact HI.out.2.2.1, HI.out.2.2.2⟩
        rw [show M.pr vs = [] from List.eq_nil_of_length_eq_zero (by omega)]
        exact VAt.nil _ _
      · have hown := HI.out.2.1
        rw [List.take_of_length_le (by omega)] at hown
        have HV := hid (CAt.own hown).vals
        clear hown
        go_wp2_with fail
        go_ret2
        exact ⟨some ⟨g, 0, none⟩, cap, by rw [hpl]; rfl, ⟨HV.out, by simp only [hpl]; omega, fun e => (by cases e)⟩, by rw [← HE.out]; exact HI.out.2.2.1, HI.out.2.2.2⟩
end Go.Proofs.Ytkkmbpcmkhikkaa
