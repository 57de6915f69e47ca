/- Texts put together: VSave0, VSave1, VSave2. -/
import Derived.Test.YtmmgfankbabfbaaDoorQ43
import Derived.Test.YtmmgfankbabfbaaDoorQ44
import Derived.Test.YtmmgfankbabfbaaDoorQ27
import Derived.Deep.DeepCutAuto
import Derived.Test.YtmmgfankbabfbaaDoorQ26
import Derived.Test.YtmmgfankbabfbaaDoorQ21
/- The reference's Save: what is refused; appends. -/
namespace Go.Proofs.YtmmgfankbabfbaaDoor
open Go.RowKit
set_option maxRecDepth 100000 in
theorem append_bm {w : World} {ops : Array Oper} {rest : List Oper} {o : Oper} {act : Act} {Q : Exit → Act → World → Prop} (hgd : o.guard = none) (s x : Operand)
    (ho : o.op = .call { callee := .builtin .append, args := #[s, x], argTypes := #[91, 91] }) (v : Value) (n : Nat) (xs : List Value) (hs : act.eval s = v) (hown : w.ownsRow 0 5 1 v n xs)
    (a : Option Addr) (m cap : Nat) (bs : List UInt8) (hm : bs.length = m) (hx : act.eval x = .slice a m cap) (hcap : a = none → cap = 0) (hA : At w a bs) (hlen : n + m ≤ 1000000000)
    (h : ∀ v' w', Grew w w' 5 v v' (n + m) (xs ++ S bs) → wpList Tryd.prog ops Q rest (act.put o.dst v') w') : wpList Tryd.prog ops Q (o :: rest) act w := by
  obtain ⟨i0, hi, hz0, hz1, hz2⟩ := info5all
  cases a with
  | none =>
    obtain rfl := hcap rfl
    obtain rfl : bs = [] := by
      cases bs with
      | nil => rfl
      | cons u l => obtain ⟨b, o', e, _⟩ := hA 0 u rfl; cases e
    obtain rfl : m = 0 := by rw [← hm]; rfl
    exact wpList_append_own_none hgd s x 91 ho 0 5 i0 1 Tryd.underlying91 hi v n xs hs hown hx (h v w ⟨by simpa [S] using hown, ⟨rfl, rfl, rfl, Nat.le_refl _, fun _ _ _ => rfl⟩, .inl rfl⟩)
  | some ad => exact append_t hgd s x ho v n xs hs hown ad bs m cap hm hx hA hlen h
set_option maxRecDepth 100000 in
theorem wp_append_um {w : World} {o : Oper} {act : Act} {K : Act → World → Prop} {Q : Exit → Act → World → Prop} {Q' : Nat → Prop} (s x : Operand)
    (ho : o.op = .call { callee := .builtin .append, args := #[s, x], argTypes := #[38, 38] }) (v : Value) (n : Nat) (xs : List Value) (hs : act.eval s = v) (hown : w.ownsRow 0 67 1 v n xs)
    (a : Option Addr) (m cap : Nat) (ns : List Nat) (hm : ns.length = m) (hx : act.eval x = .slice a m cap) (hcap : a = none → cap = 0) (hA : CQ w Q' a (N8 ns)) (hlen : n + m ≤ 1000000000)
    (h : ∀ v' w', Grew w w' 67 v v' (n + m) (xs ++ N8 ns) → K (act.put o.dst v') w') : o.wp Tryd.prog act w K Q := by
  obtain ⟨i0, hi, hz0, hz1, hz2⟩ := infoU
  cases a with
  | none =>
    obtain rfl := hcap rfl
    obtain rfl : ns = [] := by
      cases ns with
      | nil => rfl
      | cons u l => obtain ⟨b, o', e, _⟩ := hA 0 (U8 u) rfl; cases e
    obtain rfl : m = 0 := by rw [← hm]; rfl
    have hrun := run_append_owned_none (P := Tryd.prog) (w := w) 0 38 o.type 67 i0 1 Tryd.underlying38 hi v n xs hown
    unfold Oper.wp
    simp [execOp, ho, resolve, invoke, builtin, hs, hx, hrun, Result.andThen]
    exact h v w ⟨by simpa [N8] using hown, ⟨rfl, rfl, rfl, Nat.le_refl _, fun _ _ _ => rfl⟩, .inl rfl⟩
  | some ad =>
    refine wp_append_own_at s x 38 ho 0 67 i0 (.int .u64 0) 1 8 Tryd.underlying38 hi hz0 hz1 hz2 rfl (by decide) v n xs hs hown ad m cap (N8 ns) hx (by rw [len_N8]; omega) ?_ (one_N8 ns) (by unfold maxLen; omega) (by omega) (Nat.zero_le _) (fun v' w' g1 g2 _ g4 => h v' w' ⟨g1, g2, g4⟩)
    intro j y hj
    obtain ⟨b, o', e, _, hc⟩ := hA j y hj
    obtain rfl : ad = ⟨b, o', none⟩ := by simpa using e
    rw [Addr.add_mid]; exact hc
/-- What the reference's Save leaves. -/
def PRSav (w : World) (OM OR : Nat → Prop) (m p : Nat) (s : U.MS) (D : dSt) (z : Int) (e : Ending) (w' : World) : Prop := e = .returned (.int .i64 z) ∧ Hid (∃ OM' OR', IsRM w' OM' m p s ∧ IsRO w' OR' p D ∧ (∀ k, OM' k → ¬ OR' k) ∧ Touch (fun k => OM k ∨ OR k) w w' ∧ ∀ k, OM' k ∨ OR' k → (OM k ∨ OR k) ∨ (w.heap.size ≤ k ∧ k < w'.heap.size))
theorem PRSav.same {w w' : World} {OM OR : Nat → Prop} {m p : Nat} {s : U.MS} {D : dSt} (h : IsRM w OM m p s) (hD : IsRO w OR p D) (hap : ∀ k, OM k → ¬ OR k) (hA : Adds w w') (z : Int) : PRSav w OM OR m p s D z (.returned (.int .i64 z)) w' :=
  ⟨rfl, OM, OR, h.adds hA, hD.adds hA, hap, hA.mono (fun _ _ c => c.elim), fun _ c => .inl c⟩
set_option maxRecDepth 100000 in
theorem field_rslot (z : Int) (a : Option Addr) (n c : Nat) (w : World) : (Instr.field 81 (.agg #[.int .i64 z, .slice a n c]) 0).run Tryd.prog w = .ok (.int .i64 z) w := by kernel_rfl
set_option maxRecDepth 100000 in
/-- An epoch, or fields, that may not be. -/
theorem rsave_bad {w : World} {OM OR : Nat → Prop} {m p : Nat} {x y : NPart} {s : U.MS} {D : dSt} (h : IsRMV w OM m (Ptr p) x y s) (hD : IsRO w OR p D) (hap : ∀ k, OM k → ¬ OR k) (a : Option Addr) (n cap : Nat) (e z : Int) (hz : (e ≤ s.lat.ep ∨ 1000000000 < e) ∧ z = 2 ∨ ¬ (e ≤ s.lat.ep ∨ 1000000000 < e) ∧ 20 < n ∧ z = 3) :
    Calls Tryd.prog 25 #[Ptr m, .slice a n cap, .int .i64 e] w (PRSav w OM OR m p s D z) := by
  have H := hid (rlatest_any h)
  have hfl := fun z a n c w => field_rslot z a n c w
  have HS := hid (fun w' (hA : Adds w w') => PRSav.same ⟨x, y, h⟩ hD hap hA z)
  unfold PRLat at H
  generalize s.lat.fs.length = lf at *
  generalize s.lat.ep = le at *
  clear h hD hap
  rcases hz with ⟨hb, rfl⟩ | ⟨hb, hn, rfl⟩
  · by_cases h1 : e ≤ (le : Int)
    · have h1b : decide (e ≤ (le : Int)) = true := by simpa using h1
      clear hb h1
      go_enter Tryd.func25, Tryd.ntmps25
      go_wp2_with (first
        | (go_at_call 24; refine H.out.mono ?_; rintro e w1 ⟨a1, c1, rfl, H1⟩))
      go_ret
      exact HS.out w1 H1.out.2
    · have h1b : decide (e ≤ (le : Int)) = false := by simpa using h1
      have h2b : decide ((1000000000 : Int) < e) = true := by simpa using hb.resolve_left h1
      clear hb h1
      go_enter Tryd.func25, Tryd.ntmps25
      go_wp2_with (first
        | (go_at_call 24; refine H.out.mono ?_; rintro e w1 ⟨a1, c1, rfl, H1⟩))
      go_ret
      exact HS.out w1 H1.out.2
  · have h1b : decide (e ≤ (le : Int)) = false := by simp; omega
    have h2b : decide ((1000000000 : Int) < e) = false := by simp; omega
    have h3 : (20 : Int) < (n : Int) := by omega
    clear hb hn
    go_enter Tryd.func25, Tryd.ntmps25
    go_wp2_with (first
      | (go_at_call 24; refine H.out.mono ?_; rintro e w1 ⟨a1, c1, rfl, H1⟩))
    go_ret
    exact HS.out w1 H1.out.2
set_option maxRecDepth 100000 in
theorem rsav_down {w w7 : World} {OM OR : Nat → Prop} {m p : Nat} {x y : NPart} {s : U.MS} {D' : dSt} {z : Int} (h : IsRMV w OM m (Ptr p) x y s) (hap : ∀ k, OM k → ¬ OR k) (hlt : ∀ k, OM k ∨ OR k → k < w.heap.size) (hD : ∃ O', IsRO w7 O' p D' ∧ Touch OR w w7 ∧ ∀ k, O' k → OR k ∨ (w.heap.size ≤ k ∧ k < w7.heap.size)) : PRSav w OM OR m p s D' z (.returned (.int .i64 z)) w7 := by
  obtain ⟨O', hD', hT', hO'⟩ := hD
  refine ⟨rfl, OM, O', ⟨x, y, h.touch hT' hap⟩, hD', fun k q c => ?_, hT'.mono (fun _ _ c => .inr c), fun k q => ?_⟩
  · rcases hO' k c with d | d
    · exact hap k q d
    · have := hlt k (.inl q); omega
  · rcases q with q | q
    · exact .inl (.inl q)
    · exact (hO' k q).imp .inr id
set_option maxRecDepth 100000 in
theorem rsav_up {w wc w6 w7 : World} {OM OR O' : Nat → Prop} {m p i : Nat} {x y z : NPart} {s : U.MS} {sl : U.Sl} {D' : dSt} (h : IsRMV w OM m (Ptr p) x y s) (hap : ∀ k, OM k → ¬ OR k) (hlt : ∀ k, OM k ∨ OR k → k < w.heap.size) (hD : IsRO wc O' p D') (hT : Touch OR w wc) (hO : ∀ k, O' k → OR k ∨ (w.heap.size ≤ k ∧ k < wc.heap.size)) (hA : Adds wc w6) (hi : i < 2) (hz : z.ns = sl.fs) (hq : NQ w6 (fun k => wc.heap.size ≤ k) z)
    (hw : w7 = (w6.setCell ⟨m, 2 + 2 * i, none⟩ (.int .i64 (sl.ep : Int))).setCell ⟨m, 2 + 2 * i + 1, none⟩ (.slice z.a sl.fs.length z.cap)) : PRSav w OM OR m p (s.put i sl) D' 0 (.returned (.int .i64 0)) w7 := by
  have hM := (h.touch hT hap).touch hA (fun _ _ => id)
  have hs1 := hT.size
  have hs2 := hA.size
  have hm := hlt m (.inl h.om)
  have hM' : IsRMV w6 (fun k => OM k ∨ (wc.heap.size ≤ k ∧ k < w6.heap.size)) m (Ptr p) x y s := ⟨hM.box, hM.xs, hM.ys, hM.qx.mono (fun k _ q => ⟨.inl q.1, q.2⟩), hM.qy.mono (fun k _ q => ⟨.inl q.1, q.2⟩), .inl hM.om⟩
  obtain ⟨x', y', h1, h2⟩ := rmas_set hM' hi rfl hz (hq.mono (fun k hk q => ⟨.inr ⟨q, hk⟩, by omega⟩)) hw
  have hs3 := h2.size
  have hOm : ∀ k, O' k → ¬ k = m := fun k q e => by
    rw [e] at q
    rcases hO m q with d | d
    · exact hap m h.om d
    · omega
  refine ⟨rfl, _, O', ⟨x', y', h1⟩, (hD.adds hA).touch h2 hOm, fun k q c => ?_, ((hT.mono (fun _ _ c => .inr c)).trans (hA.mono (fun _ _ c => c.elim))).trans (h2.mono (fun k _ c => .inl (by rw [c]; exact h.om))), fun k q => ?_⟩
  · rcases hO k c with d | d
    · rcases q with q | q
      · exact hap k q d
      · have := hlt k (.inr d); omega
    · rcases q with q | q
      · have := hlt k (.inl q); omega
      · omega
  · rcases q with (q | q) | q
    · exact .inl (.inl q)
    · exact .inr ⟨by omega, by omega⟩
    · rcases hO k q with d | d
      · exact .inl (.inr d)
      · exact .inr ⟨d.1, by omega⟩
set_option maxRecDepth 100000 in
theorem PRo.next {w w1 w2 : World} {O O1 : Nat → Prop} {p : Nat} {x : Int × dSt} {e : Ending} (hT : Touch O w w1) (hO : ∀ k, O1 k → O k ∨ (w.heap.size ≤ k ∧ k < w1.heap.size)) (h : PRo w1 O1 p x e w2) : PRo w O p x e w2 := by
  obtain ⟨he, hh⟩ := h
  obtain ⟨O', h1, h2, h3⟩ := hh.out
  have hs := hT.size
  have hs2 := h2.size
  refine ⟨he, O', h1, hT.then h2 (fun k hk c => ?_), fun k c => ?_⟩
  · rcases hO k c with d | d
    · exact d
    · omega
  · rcases h3 k c with d | d
    · rcases hO k d with d' | d'
      · exact .inl d'
      · exact .inr ⟨d'.1, by omega⟩
    · exact .inr ⟨by omega, d.2⟩
set_option maxRecDepth 100000 in
theorem i64_smallV {x y : Int} (hy : x = y) (h0 : 0 ≤ x) (h1 : x ≤ 1000000) : IntKind.i64.wrap x = y := by
  rw [← hy, IntKind.wrap_i64]
  omega
end Go.Proofs.YtmmgfankbabfbaaDoor

/- The reference's Save: the slot is written, and synced. -/
namespace Go.Proofs.YtmmgfankbabfbaaDoor
open Go.RowKit
set_option maxRecDepth 100000 in
theorem build_rslot2 (z : Int) (a : Option Addr) (n cap : Nat) (w : World) : (Instr.build 81 #[(0, .int .i64 z), (1, .slice a n cap)]).run Tryd.prog w = .ok (.agg #[.int .i64 z, .slice a n cap]) w := by kernel_rfl
set_option maxRecDepth 100000 in
set_option maxHeartbeats 4000000 in
theorem rsave_go0 {w : World} {OM OR Q : Nat → Prop} {m p : Nat} {x y : NPart} {s s' : U.MS} {D D1 D2 D' : dSt} {z1 z2 z : Int} {n0 : Nat} (h : IsRMV w OM m (Ptr p) x y s) (hD : IsRO w OR p D) (hap : ∀ k, OM k → ¬ OR k) (hlt : ∀ k, OM k ∨ OR k → k < w.heap.size) (hdk : DOk D n0) (hn0 : n0 ≤ 790) (hsz : (s.at_ : Int) + 2 ≤ D.size) (hs2 : D.size ≤ 4096)
    (a : Option Addr) (n cap : Nat) (ns : List Nat) (hn : ns.length = n) (hF : U.Fit ns) (hA : NQ w Q ⟨a, cap, ns⟩) (hQ : ∀ k, Q k → ¬ OR k) (e : Nat) (he : s.lat.ep < e ∧ e ≤ 1000000000) (hot : s.other = 0)
    (h1 : (if D.left = 0 then (10, D) else (0, D.wrote (savW s ns e).1 (savW s ns e).2)) = (z1, D1)) (h2 : (if D1.left = 0 then (10, D1) else (0, D1.synced)) = (z2, D2)) (hd1 : DOk D1 (n0 + 1))
    (hr1 : z1 ≠ 0 → z = z1 ∧ D' = D1 ∧ s' = s) (hr2 : z1 = 0 → z2 ≠ 0 → z = z2 ∧ D' = D2 ∧ s' = s) (hr3 : z1 = 0 → z2 = 0 → z = 0 ∧ D' = D2 ∧ s' = s.put s.other ⟨e, ns⟩) :
    Calls Tryd.prog 25 #[Ptr m, .slice a n cap, .int .i64 (e : Int)] w (PRSav w OM OR m p s' D' z) := by
  have H := hid (rlatest_any h)
  have hfl := fun z a n c w => field_rslot z a n c w
  have hnl : n ≤ 20 := by rw [← hn]; exact hF.len
  have HU := hid (fun w' (u : Nat) (hu : u < 18446744073709551616) => ruintp_any u hu w')
  have HG := hid (fun k (hk : k < n) => hA.get (k := k) (show k < ns.length by omega))
  dsimp only at HG
  have HF := hid hF
  have HB := hid (show ∀ k, (M.enc n ++ U.encs (ns.take k)).length ≤ 300 by
    intro k
    have h1 := U.encs_len (ns.take k) (fun n hn => hF.lt n (List.mem_of_mem_take hn))
    have h2 := M.len_enc10 (n := n) (by omega)
    have h3 : (ns.take k).length ≤ 20 := by rw [List.length_take]; omega
    rw [List.length_append]; omega)
  obtain ⟨L, hL⟩ : ∃ L, L = (U.pbytes ns).length := ⟨_, rfl⟩
  have HPb := hid (show U.pbytes ns = M.enc n ++ U.encs (ns.take n) by rw [U.pbytes, hn, List.take_of_length_le (by omega)])
  obtain ⟨Y, hY⟩ : ∃ Y, Y = (savW s ns e).2 := ⟨_, rfl⟩
  have hYl : Y.length = 256 := by rw [hY]; exact M.len_sector _ _ _ hF.bytes
  have HWp := hid (fun w' (va : Option Addr) (vc : Nat) (hc : va = none → vc = 0) (hAt : At w' va (U.pbytes ns)) => show Calls Tryd.prog 48 #[.int .u64 (e : Int), .int .u8 3, .slice va L vc] w' (fun e' w'' => ∃ ay cy, e' = .returned (.tuple #[.slice ay 256 cy, .int .i64 0]) ∧ At w'' ay Y ∧ Adds w' w'') by
    rw [hL, hY]
    exact rswrap_ok e (by omega) 3 va (U.pbytes ns) vc w' (by omega) (by decide) hF.bytes hc hAt)
  have HWh := hid (fun w' (hA' : Adds w w') => rwhich_any (h.touch hA' (fun _ _ => id)))
  have hat : s.at_ ≤ 4096 := by omega
  have HOv := hid (fun w' (hA' : Adds w w') (z' : Int) (hz' : z' = (savW s ns e).1) => show Calls Tryd.prog 49 #[Ptr p, .int .i64 z', Str Y] w' (PRo w' OR p (z1, D1)) by
    rw [hz', ← h1, hY]
    exact ro_put (hD.adds hA') hdk (by omega) (savW s ns e).1 (by unfold savW; rw [hot]; omega) (savW s ns e).2 (by rw [← hY]; exact hYl))
  have HSy := hid (fun w' O1 (h' : IsRO w' O1 p D1) => show Calls Tryd.prog 50 #[Ptr p] w' (PRo w' O1 p (z2, D2)) by rw [← h2]; exact ro_sync h' hd1 (by omega))
  have HI := hid (show ((s.at_ : Int) + 0) = (savW s ns e).1 by unfold savW; rw [hot]; omega)
  have HAll := hid (And.intro h (And.intro hap hlt))
  have HNs := hid (And.intro hA (And.intro hQ hn))
  have H0 := hid (fun w' (hA' : Adds w w') => below_adds hA' (cellOf h.box 0))
  have H1c := hid (fun w' (hA' : Adds w w') => below_adds hA' (cellOf h.box 1))
  have HR1 := hid hr1
  have HR2 := hid hr2
  have HR3 := hid hr3
  have hd1 : decide (((e : Nat) : Int) ≤ (s.lat.ep : Int)) = false := by simp; omega
  have hd1n : decide (e ≤ s.lat.ep) = false := by simp; omega
  have hd2 : decide ((1000000000 : Int) < (e : Int)) = false := by simp; omega
  have hd2n : decide (1000000000 < e) = false := by simp; omega
  have hd3 : ¬ (20 : Int) < (n : Int) := by omega
  have hel : e ≤ 1000000000 := he.2
  obtain ⟨wh, hwh⟩ : ∃ wh, wh = s.which := ⟨_, rfl⟩
  have hwz : ¬ wh = 0 := by
    intro c; rw [hwh] at c; rw [U.MS.other, if_pos c] at hot; cases hot
  rw [← hwh] at HWh
  unfold PRLat at H
  obtain ⟨lf, hlf⟩ : ∃ lf, lf = s.lat.fs.length := ⟨_, rfl⟩
  obtain ⟨le, hle⟩ : ∃ le, le = s.lat.ep := ⟨_, rfl⟩
  rw [← hlf, ← hle] at H
  rw [← hle] at hd1 hd1n
  obtain ⟨at_, hat2⟩ : ∃ at_, at_ = s.at_ := ⟨_, rfl⟩
  rw [← hat2] at HI H1c hat
  have HL := hid hL
  have HOT := hid hot
  have hcvY : ∀ w' ay cy, At w' ay Y → (convert 91 9 (.slice ay 256 cy)).run Tryd.prog w' = .ok (Str Y) w' := fun w' ay cy q => by
    have r := conv_at w' ay Y cy q
    rw [hYl] at r
    exact r
  have HCV := hid hcvY
  clear h hD hap hlt hdk hn0 hsz hs2 hn hF hA hQ he h1 h2 hr1 hr2 hr3 hL hlf hle hat2 hY hYl hot hwh hcvY
  
  go_enter Tryd.func25, Tryd.ntmps25
  go_wp2_with (first
    | (go_at_call 24; refine H.out.mono ?_; rintro e w1 ⟨a1, c1, rfl, H1⟩)
    | (go_at_call 47; refine (HU.out w1 n (by omega)).mono ?_; rintro e w2 ⟨v2, rfl, o2, hA2⟩; have H2 := hid (And.intro o2 (H1.out.2.trans hA2)); have HZ := hid H1.out.2.size; clear o2 hA2))
  go_loopw [7, 8] (fun v i wr => ∃ k : Nat, k ≤ n ∧ i = .int .i64 (k : Int) ∧ Hid (wr.ownsRow 0 5 1 v (M.enc n ++ U.encs (ns.take k)).length (S (M.enc n ++ U.encs (ns.take k))) ∧ (∀ j, v.ownBlock = some j → w.heap.size ≤ j) ∧ Adds w wr)) (fun _ i _ => n - (intOf i).toNat)
  case atStart =>
    refine ⟨0, Nat.zero_le _, rfl, ?_, fun j hj => Nat.le_trans HZ.out (row_low H2.out.1 hj).1, H2.out.2⟩
    have q := row_base (C := 0) H2.out.1 (fun _ _ => Nat.zero_le _)
    simpa [U.encs] using q
  case round =>
    obtain ⟨k, hk, rfl, HI2⟩ := hrel
    by_cases hlt : k < n
    · obtain ⟨b, o, u, rfl, hn, hc⟩ := HG.out k hlt
      have hc' : wr.cell? ⟨b, o + k, none⟩ = some (.int .u64 (u : Int)) := below_adds HI2.out.2.2 hc
      have hnl2 : u < 18446744073709551616 := HF.out.lt u (List.mem_of_getElem? hn)
      obtain ⟨va, vc, hv, _, hvn, hvq⟩ := own_cq HI2.out.1
      obtain ⟨L2, hL2⟩ : ∃ L2, L2 = (M.enc n ++ U.encs (ns.take k)).length := ⟨_, rfl⟩
      obtain ⟨el, hele⟩ : ∃ el, el = (M.enc u).length := ⟨_, rfl⟩
      have hel10 : el ≤ 10 := by rw [hele]; exact M.len_enc10 hnl2
      rw [← hL2] at hv
      subst hv
      have HX := hid (HU.out wr u hnl2)
      have HN := hid hn
      have HLL := hid (And.intro hL2 hele)
      have hL2b : L2 ≤ 300 := by rw [hL2]; exact HB.out k
      clear hc hn hvn hvq hnl2 hL2 hele
      go_wp2_with (first
        | (go_at_call 47; refine HX.out.mono ?_; rintro e w3 ⟨v3, rfl, o3, A3⟩
           obtain ⟨a3, c3, hv3, hl3⟩ := Own.lies o3
           rw [← HLL.out.2] at hv3
           subst hv3
           have H3 := hid (And.intro hl3 A3)
           have R3 := hid (show w3.ownsRow 0 5 1 (.slice va L2 vc) L2 (S (M.enc n ++ U.encs (ns.take k))) by have q := row_touch HI2.out.1 A3 (fun _ _ => id); rw [← HLL.out.1] at q; exact q)
           clear o3 A3 hl3)
        | (at_builtin; refine append_bm rfl _ _ rfl (.slice va L2 vc) L2 (S (M.enc n ++ U.encs (ns.take k))) rfl R3.out a3 el c3 (M.enc u) HLL.out.2.symm rfl H3.out.1.non H3.out.1.at_ (by omega) ?_; intro v4 w4 G4; have HG4 := hid G4; clear G4))
      go_roundw
      case rel =>
        have hs := HI2.out.2.2.size
        have hs3 := H3.out.2.size
        have e1 : M.enc n ++ U.encs (ns.take (k + 1)) = (M.enc n ++ U.encs (ns.take k)) ++ M.enc u := by rw [encs_take HN.out, List.append_assoc]
        refine ⟨k + 1, by omega, by go_num, ?_, HG4.out.lt (by omega) HI2.out.2.1, (HI2.out.2.2.trans H3.out.2).then HG4.out.touch (fun j hj c => by have := HI2.out.2.1 j c; omega)⟩
        rw [e1]
        exact own_app HLL.out.1.symm rfl (by rw [← HLL.out.2]; exact HG4.out.1)
      case measure => simp [intOf]; omega
    · obtain rfl : k = n := by omega
      obtain ⟨va, vc, hv, _, hvn, hvq⟩ := own_cq HI2.out.1
      rw [← HPb.out, ← HL.out] at hv
      subst hv
      have HV := hid (And.intro hvn (show At wr va (U.pbytes ns) by rw [HPb.out]; exact hvq.at))
      clear hvn hvq
      have HAr := hid HI2.out.2.2
      clear HI2 HG HU
      go_upto_region 16 with (first
        | (go_at_call 48; refine (HWp.out wr va vc HV.out.1 HV.out.2).mono ?_; rintro e w5 ⟨ay, cy, rfl, hAy, hA5⟩; have H5 := hid (And.intro hAy (HAr.out.trans hA5)); clear hAy hA5)
        | (go_at_call 30; refine (HWh.out w5 H5.out.2).mono ?_; rintro e w6 ⟨rfl, hA6⟩; have H6 := hid (And.intro (H5.out.1.adds hA6) (H5.out.2.trans hA6)); have d0 := H0.out w6 H6.out.2; have d1 := H1c.out w6 H6.out.2; clear hA6))
      have hcv := HCV.out w6.drew ay cy (H6.out.1.adds (Touch.refl _ w6).drew)
      have hcv' := HCV.out w6 ay cy H6.out.1
      go_cut [10, 11] (fun t10 t11 wx => t10 = .int .i64 z1 ∧ t11 = .int .i64 0 ∧ Hid (∃ O', IsRO wx O' p D1 ∧ Touch OR w wx ∧ ∀ k, O' k → OR k ∨ (w.heap.size ≤ k ∧ k < wx.heap.size)))
      case first =>
        go_region_with (go_at_call 49; refine (HOv.out _ (by first | exact H6.out.2.drew | exact H6.out.2) _ (by first | exact HI.out | exact i64_smallV HI.out (by omega) (by omega))).mono ?_; rintro e w7 ⟨rfl, H7⟩)
        all_goals
          go_wp2_with fail
          go_meet
          obtain ⟨O', hD', hT', hO'⟩ := H7.out
          have hs := H6.out.2.size
          exact ⟨rfl, rfl, O', hD', (H6.out.2.drew.mono (fun _ _ c => c.elim)).trans hT', fun k q => (hO' k q).imp id (fun c => ⟨Nat.le_trans hs (by have c1 := c.1; simp at c1; omega), c.2⟩)⟩
      case rest =>
        obtain ⟨rfl, rfl, H7⟩ := hcut
        obtain ⟨O7, hD7, hT7, hO7⟩ := H7.out
        have H8 := hid (And.intro hD7 (And.intro hT7 hO7))
        clear hD7 hT7 hO7 H7 hcv hcv'
        by_cases hz1 : z1 = 0
        · subst hz1
          have d07 := cellOf (HAll.out.1.touch H8.out.2.1 HAll.out.2.1).box 0
          by_cases hz2 : z2 = 0
          · subst hz2
            obtain ⟨rfl, rfl, rfl⟩ := HR3.out rfl rfl
            go_upto_region 20 with (first
              | (go_at_call 50; refine (HSy.out _ O7 H8.out.1).mono ?_; rintro e w9 hq9; obtain ⟨rfl, hq10⟩ := PRo.next H8.out.2.1 H8.out.2.2 hq9; clear hq9))
            obtain ⟨O', hD', hT', hO'⟩ := hq10.out
            have H9 := hid (And.intro hD' (And.intro hT' hO'))
            clear hD' hT' hO' hq10
            have M9 := hid (HAll.out.1.touch H9.out.2.1 HAll.out.2.1)
            have N9 := hid (HNs.out.1.touch H9.out.2.1 HNs.out.2.1)
            obtain ⟨wA, hwA⟩ : ∃ wA, wA = (w9.alloc (.cells #[] 67)).drew := ⟨_, rfl⟩
            have hAA : Adds w9 wA := by rw [hwA]; exact ((Touch.refl _ w9).alloc _).drew
            have HRA := hid (show wA.ownsRow 0 67 1 (.slice (some ⟨w9.heap.size, 0, none⟩) 0 0) 0 [] by rw [hwA]; exact row_touch (World.ownsRow_lit (base := 0) (e := 67) (size := 1) w9 #[] 0 (Nat.zero_le _) (by decide) rfl) (Touch.refl (fun _ => False) _).drew (fun _ _ => id))
            have HAA := hid hAA
            clear hAA
            refine E_begin (S := fun _ : World => True) (X := 11) (by kernel_rfl) ?_
            refine E_put (i := 0) 76 (v := Ptr m) rfl rfl (by kernel_rfl) (by kernel_rfl) (by kernel_rfl) (by kernel_rfl) (fun _ _ _ h => h) (Or.inl ⟨by rfl, fun _ _ => by rfl⟩) trivial ?_
            simp only [Act.put, List.setIfInBounds_toArray, List.set_cons_zero, List.set_cons_succ]
            refine E_put (i := 1) 77 (v := .int .i64 0) rfl rfl (by kernel_rfl) (by kernel_rfl) (by kernel_rfl) (by kernel_rfl) (fun _ _ _ h => h) (Or.inl ⟨by rfl, fun _ _ => by rfl⟩) trivial ?_
            simp only [Act.put, List.setIfInBounds_toArray, List.set_cons_zero, List.set_cons_succ]
            refine E_put (i := 2) 78 (v := .int .i64 (e : Int)) rfl rfl (by kernel_rfl) (by kernel_rfl) (by kernel_rfl) (by kernel_rfl) (fun _ _ _ h => h) (Or.inl ⟨by rfl, fun _ _ => by rfl⟩) trivial ?_
            simp only [Act.put, List.setIfInBounds_toArray, List.set_cons_zero, List.set_cons_succ]
            refine E_put (i := 4) 80 (v := .slice a k cap) rfl rfl (by kernel_rfl) (by kernel_rfl) (by kernel_rfl) (by kernel_rfl) (fun _ _ _ h => h) (Or.inl ⟨by rfl, fun _ _ => by rfl⟩) trivial ?_
            simp only [Act.put, List.setIfInBounds_toArray, List.set_cons_zero, List.set_cons_succ]
            refine E_put (i := 7) 83 (v := Ptr m) rfl rfl (by kernel_rfl) (by kernel_rfl) (by kernel_rfl) (by kernel_rfl) (fun _ _ _ h => h) (Or.inl ⟨by rfl, fun _ _ => by go_simp⟩) trivial ?_
            simp only [Act.put, List.setIfInBounds_toArray, List.set_cons_zero, List.set_cons_succ]
            refine E_put (i := 8) 84 (v := .pointer (some ⟨m, 2, none⟩)) rfl rfl (by kernel_rfl) (by kernel_rfl) (by kernel_rfl) (by kernel_rfl) (fun _ _ _ h => h) (Or.inl ⟨by rfl, fun _ _ => by go_simp⟩) trivial ?_
            simp only [Act.put, List.setIfInBounds_toArray, List.set_cons_zero, List.set_cons_succ]
            refine E_do (i := 3) (some 79) (by kernel_rfl) rfl rfl rfl (fun K hK => ?_)
            go_simp
            rw [← hwA]
            refine hK (.slice (some ⟨w9.heap.size, 0, none⟩) 0 0) wA (fun _ => trivial) ?_
            clear hK K hwA
            simp only [Act.put, List.setIfInBounds_toArray, List.set_cons_zero, List.set_cons_succ]
            refine E_do (i := 5) (some 81) (by kernel_rfl) rfl rfl rfl (fun K hK => ?_)
            refine wp_append_um _ _ rfl (.slice (some ⟨w9.heap.size, 0, none⟩) 0 0) 0 [] rfl HRA.out a k cap ns HNs.out.2.2 rfl N9.out.non (N9.out.at_.adds HAA.out) (by omega) ?_
            intro vB wB GB
            have HGB := hid GB
            obtain ⟨aB, cB, hvB, _, hnB, hqB⟩ := own_cq GB.1
            rw [Nat.zero_add] at hvB
            subst hvB
            have hloB : ∀ j, (Value.slice aB k cB).ownBlock = some j → w9.heap.size ≤ j := GB.lt (by have := HAA.out.size; omega) (fun j hj => by cases hj; exact Nat.le_refl _)
            have HQB := hid (show NQ wB (fun j => w9.heap.size ≤ j) ⟨aB, cB, ns⟩ from ⟨by
              have q := hqB.mono (Q' := fun j => w9.heap.size ≤ j) (fun j _ c => hloB j c)
              rw [List.nil_append] at q
              exact q, hnB⟩)
            have HAB := hid (show Adds w9 wB from HAA.out.then GB.touch (fun j hj c => by cases c; exact absurd hj (Nat.lt_irrefl _)))
            refine hK _ wB (fun _ => trivial) ?_
            clear hK K GB hqB hnB hloB
            simp only [Act.put, List.setIfInBounds_toArray, List.set_cons_zero, List.set_cons_succ]
            have hbl := build_rslot2 (e : Int) aB k cB wB
            refine E_do (i := 6) (some 82) (by kernel_rfl) rfl rfl rfl (fun K hK => ?_)
            go_simp
            refine hK (.agg #[.int .i64 (e : Int), .slice aB k cB]) wB (fun _ => trivial) ?_
            clear hK K hbl
            simp only [Act.put, List.setIfInBounds_toArray, List.set_cons_zero, List.set_cons_succ]
            have hMB := M9.out.touch HAB.out (fun _ _ => id)
            have c2 := cellOf hMB.box 2
            have c3 := cellOf hMB.box 3
            have f2 := frozen_of_row wB _ 2 _ 88 hMB.box
            have f3 := frozen_of_row wB _ 3 _ 88 hMB.box
            clear hMB
            refine E_do (i := 9) (some 85) (by kernel_rfl) rfl rfl rfl (fun K hK => ?_)
            go_simp
            refine hK (.pointer (some ⟨m, 2, none⟩)) wB (fun _ => trivial) ?_
            clear hK K
            simp only [Act.put, List.setIfInBounds_toArray, List.set_cons_zero, List.set_cons_succ]
            refine E_do (i := 10) none (by kernel_rfl) rfl rfl rfl (fun K hK => ?_)
            go_simp
            refine hK undef _ (fun _ => trivial) ?_
            clear hK K
            simp only [Act.put]
            refine E_done (by kernel_rfl) ?_ _
            clear c2 c3 f2 f3
            go_wp2_with fail
            go_ret
            have q := rsav_up HAll.out.1 HAll.out.2.1 HAll.out.2.2 H9.out.1 H9.out.2.1 H9.out.2.2 HAB.out (i := 0) (by decide) (z := ⟨aB, cB, ns⟩) (sl := ⟨e, ns⟩) rfl HQB.out rfl
            rw [HOT.out]
            rw [← HNs.out.2.2]
            exact q
          · obtain ⟨rfl, rfl, rfl⟩ := HR2.out rfl hz2
            go_wp2_with (first
              | (go_at_call 50; refine (HSy.out _ O7 H8.out.1).mono ?_; rintro e w9 hq9; obtain ⟨rfl, hq10⟩ := PRo.next H8.out.2.1 H8.out.2.2 hq9; clear hq9))
            go_ret
            exact rsav_down HAll.out.1 HAll.out.2.1 HAll.out.2.2 hq10.out
        · obtain ⟨rfl, rfl, rfl⟩ := HR1.out hz1
          go_wp2_with fail
          go_ret
          exact rsav_down HAll.out.1 HAll.out.2.1 HAll.out.2.2 ⟨O7, H8.out.1, H8.out.2.1, H8.out.2.2⟩
set_option maxRecDepth 100000 in
set_option maxHeartbeats 4000000 in
theorem rsave_go1 {w : World} {OM OR Q : Nat → Prop} {m p : Nat} {x y : NPart} {s s' : U.MS} {D D1 D2 D' : dSt} {z1 z2 z : Int} {n0 : Nat} (h : IsRMV w OM m (Ptr p) x y s) (hD : IsRO w OR p D) (hap : ∀ k, OM k → ¬ OR k) (hlt : ∀ k, OM k ∨ OR k → k < w.heap.size) (hdk : DOk D n0) (hn0 : n0 ≤ 790) (hsz : (s.at_ : Int) + 2 ≤ D.size) (hs2 : D.size ≤ 4096)
    (a : Option Addr) (n cap : Nat) (ns : List Nat) (hn : ns.length = n) (hF : U.Fit ns) (hA : NQ w Q ⟨a, cap, ns⟩) (hQ : ∀ k, Q k → ¬ OR k) (e : Nat) (he : s.lat.ep < e ∧ e ≤ 1000000000) (hot : s.other = 1)
    (h1 : (if D.left = 0 then (10, D) else (0, D.wrote (savW s ns e).1 (savW s ns e).2)) = (z1, D1)) (h2 : (if D1.left = 0 then (10, D1) else (0, D1.synced)) = (z2, D2)) (hd1 : DOk D1 (n0 + 1))
    (hr1 : z1 ≠ 0 → z = z1 ∧ D' = D1 ∧ s' = s) (hr2 : z1 = 0 → z2 ≠ 0 → z = z2 ∧ D' = D2 ∧ s' = s) (hr3 : z1 = 0 → z2 = 0 → z = 0 ∧ D' = D2 ∧ s' = s.put s.other ⟨e, ns⟩) :
    Calls Tryd.prog 25 #[Ptr m, .slice a n cap, .int .i64 (e : Int)] w (PRSav w OM OR m p s' D' z) := by
  have H := hid (rlatest_any h)
  have hfl := fun z a n c w => field_rslot z a n c w
  have hnl : n ≤ 20 := by rw [← hn]; exact hF.len
  have HU := hid (fun w' (u : Nat) (hu : u < 18446744073709551616) => ruintp_any u hu w')
  have HG := hid (fun k (hk : k < n) => hA.get (k := k) (show k < ns.length by omega))
  dsimp only at HG
  have HF := hid hF
  have HB := hid (show ∀ k, (M.enc n ++ U.encs (ns.take k)).length ≤ 300 by
    intro k
    have h1 := U.encs_len (ns.take k) (fun n hn => hF.lt n (List.mem_of_mem_take hn))
    have h2 := M.len_enc10 (n := n) (by omega)
    have h3 : (ns.take k).length ≤ 20 := by rw [List.length_take]; omega
    rw [List.length_append]; omega)
  obtain ⟨L, hL⟩ : ∃ L, L = (U.pbytes ns).length := ⟨_, rfl⟩
  have HPb := hid (show U.pbytes ns = M.enc n ++ U.encs (ns.take n) by rw [U.pbytes, hn, List.take_of_length_le (by omega)])
  obtain ⟨Y, hY⟩ : ∃ Y, Y = (savW s ns e).2 := ⟨_, rfl⟩
  have hYl : Y.length = 256 := by rw [hY]; exact M.len_sector _ _ _ hF.bytes
  have HWp := hid (fun w' (va : Option Addr) (vc : Nat) (hc : va = none → vc = 0) (hAt : At w' va (U.pbytes ns)) => show Calls Tryd.prog 48 #[.int .u64 (e : Int), .int .u8 3, .slice va L vc] w' (fun e' w'' => ∃ ay cy, e' = .returned (.tuple #[.slice ay 256 cy, .int .i64 0]) ∧ At w'' ay Y ∧ Adds w' w'') by
    rw [hL, hY]
    exact rswrap_ok e (by omega) 3 va (U.pbytes ns) vc w' (by omega) (by decide) hF.bytes hc hAt)
  have HWh := hid (fun w' (hA' : Adds w w') => rwhich_any (h.touch hA' (fun _ _ => id)))
  have hat : s.at_ ≤ 4096 := by omega
  have HOv := hid (fun w' (hA' : Adds w w') (z' : Int) (hz' : z' = (savW s ns e).1) => show Calls Tryd.prog 49 #[Ptr p, .int .i64 z', Str Y] w' (PRo w' OR p (z1, D1)) by
    rw [hz', ← h1, hY]
    exact ro_put (hD.adds hA') hdk (by omega) (savW s ns e).1 (by unfold savW; rw [hot]; omega) (savW s ns e).2 (by rw [← hY]; exact hYl))
  have HSy := hid (fun w' O1 (h' : IsRO w' O1 p D1) => show Calls Tryd.prog 50 #[Ptr p] w' (PRo w' O1 p (z2, D2)) by rw [← h2]; exact ro_sync h' hd1 (by omega))
  have HI := hid (show ((s.at_ : Int) + 1) = (savW s ns e).1 by unfold savW; rw [hot]; omega)
  have HAll := hid (And.intro h (And.intro hap hlt))
  have HNs := hid (And.intro hA (And.intro hQ hn))
  have H0 := hid (fun w' (hA' : Adds w w') => below_adds hA' (cellOf h.box 0))
  have H1c := hid (fun w' (hA' : Adds w w') => below_adds hA' (cellOf h.box 1))
  have HR1 := hid hr1
  have HR2 := hid hr2
  have HR3 := hid hr3
  have hd1 : decide (((e : Nat) : Int) ≤ (s.lat.ep : Int)) = false := by simp; omega
  have hd1n : decide (e ≤ s.lat.ep) = false := by simp; omega
  have hd2 : decide ((1000000000 : Int) < (e : Int)) = false := by simp; omega
  have hd2n : decide (1000000000 < e) = false := by simp; omega
  have hd3 : ¬ (20 : Int) < (n : Int) := by omega
  have hel : e ≤ 1000000000 := he.2
  obtain ⟨wh, hwh⟩ : ∃ wh, wh = s.which := ⟨_, rfl⟩
  have hwz : wh = 0 := by
    rw [hwh]; by_cases c : s.which = 0; exact c; rw [U.MS.other, if_neg c] at hot; cases hot
  rw [← hwh] at HWh
  unfold PRLat at H
  obtain ⟨lf, hlf⟩ : ∃ lf, lf = s.lat.fs.length := ⟨_, rfl⟩
  obtain ⟨le, hle⟩ : ∃ le, le = s.lat.ep := ⟨_, rfl⟩
  rw [← hlf, ← hle] at H
  rw [← hle] at hd1 hd1n
  obtain ⟨at_, hat2⟩ : ∃ at_, at_ = s.at_ := ⟨_, rfl⟩
  rw [← hat2] at HI H1c hat
  have HL := hid hL
  have HOT := hid hot
  have hcvY : ∀ w' ay cy, At w' ay Y → (convert 91 9 (.slice ay 256 cy)).run Tryd.prog w' = .ok (Str Y) w' := fun w' ay cy q => by
    have r := conv_at w' ay Y cy q
    rw [hYl] at r
    exact r
  have HCV := hid hcvY
  clear h hD hap hlt hdk hn0 hsz hs2 hn hF hA hQ he h1 h2 hr1 hr2 hr3 hL hlf hle hat2 hY hYl hot hwh hcvY
  subst hwz
  go_enter Tryd.func25, Tryd.ntmps25
  go_wp2_with (first
    | (go_at_call 24; refine H.out.mono ?_; rintro e w1 ⟨a1, c1, rfl, H1⟩)
    | (go_at_call 47; refine (HU.out w1 n (by omega)).mono ?_; rintro e w2 ⟨v2, rfl, o2, hA2⟩; have H2 := hid (And.intro o2 (H1.out.2.trans hA2)); have HZ := hid H1.out.2.size; clear o2 hA2))
  go_loopw [7, 8] (fun v i wr => ∃ k : Nat, k ≤ n ∧ i = .int .i64 (k : Int) ∧ Hid (wr.ownsRow 0 5 1 v (M.enc n ++ U.encs (ns.take k)).length (S (M.enc n ++ U.encs (ns.take k))) ∧ (∀ j, v.ownBlock = some j → w.heap.size ≤ j) ∧ Adds w wr)) (fun _ i _ => n - (intOf i).toNat)
  case atStart =>
    refine ⟨0, Nat.zero_le _, rfl, ?_, fun j hj => Nat.le_trans HZ.out (row_low H2.out.1 hj).1, H2.out.2⟩
    have q := row_base (C := 0) H2.out.1 (fun _ _ => Nat.zero_le _)
    simpa [U.encs] using q
  case round =>
    obtain ⟨k, hk, rfl, HI2⟩ := hrel
    by_cases hlt : k < n
    · obtain ⟨b, o, u, rfl, hn, hc⟩ := HG.out k hlt
      have hc' : wr.cell? ⟨b, o + k, none⟩ = some (.int .u64 (u : Int)) := below_adds HI2.out.2.2 hc
      have hnl2 : u < 18446744073709551616 := HF.out.lt u (List.mem_of_getElem? hn)
      obtain ⟨va, vc, hv, _, hvn, hvq⟩ := own_cq HI2.out.1
      obtain ⟨L2, hL2⟩ : ∃ L2, L2 = (M.enc n ++ U.encs (ns.take k)).length := ⟨_, rfl⟩
      obtain ⟨el, hele⟩ : ∃ el, el = (M.enc u).length := ⟨_, rfl⟩
      have hel10 : el ≤ 10 := by rw [hele]; exact M.len_enc10 hnl2
      rw [← hL2] at hv
      subst hv
      have HX := hid (HU.out wr u hnl2)
      have HN := hid hn
      have HLL := hid (And.intro hL2 hele)
      have hL2b : L2 ≤ 300 := by rw [hL2]; exact HB.out k
      clear hc hn hvn hvq hnl2 hL2 hele
      go_wp2_with (first
        | (go_at_call 47; refine HX.out.mono ?_; rintro e w3 ⟨v3, rfl, o3, A3⟩
           obtain ⟨a3, c3, hv3, hl3⟩ := Own.lies o3
           rw [← HLL.out.2] at hv3
           subst hv3
           have H3 := hid (And.intro hl3 A3)
           have R3 := hid (show w3.ownsRow 0 5 1 (.slice va L2 vc) L2 (S (M.enc n ++ U.encs (ns.take k))) by have q := row_touch HI2.out.1 A3 (fun _ _ => id); rw [← HLL.out.1] at q; exact q)
           clear o3 A3 hl3)
        | (at_builtin; refine append_bm rfl _ _ rfl (.slice va L2 vc) L2 (S (M.enc n ++ U.encs (ns.take k))) rfl R3.out a3 el c3 (M.enc u) HLL.out.2.symm rfl H3.out.1.non H3.out.1.at_ (by omega) ?_; intro v4 w4 G4; have HG4 := hid G4; clear G4))
      go_roundw
      case rel =>
        have hs := HI2.out.2.2.size
        have hs3 := H3.out.2.size
        have e1 : M.enc n ++ U.encs (ns.take (k + 1)) = (M.enc n ++ U.encs (ns.take k)) ++ M.enc u := by rw [encs_take HN.out, List.append_assoc]
        refine ⟨k + 1, by omega, by go_num, ?_, HG4.out.lt (by omega) HI2.out.2.1, (HI2.out.2.2.trans H3.out.2).then HG4.out.touch (fun j hj c => by have := HI2.out.2.1 j c; omega)⟩
        rw [e1]
        exact own_app HLL.out.1.symm rfl (by rw [← HLL.out.2]; exact HG4.out.1)
      case measure => simp [intOf]; omega
    · obtain rfl : k = n := by omega
      obtain ⟨va, vc, hv, _, hvn, hvq⟩ := own_cq HI2.out.1
      rw [← HPb.out, ← HL.out] at hv
      subst hv
      have HV := hid (And.intro hvn (show At wr va (U.pbytes ns) by rw [HPb.out]; exact hvq.at))
      clear hvn hvq
      have HAr := hid HI2.out.2.2
      clear HI2 HG HU
      go_upto_region 16 with (first
        | (go_at_call 48; refine (HWp.out wr va vc HV.out.1 HV.out.2).mono ?_; rintro e w5 ⟨ay, cy, rfl, hAy, hA5⟩; have H5 := hid (And.intro hAy (HAr.out.trans hA5)); clear hAy hA5)
        | (go_at_call 30; refine (HWh.out w5 H5.out.2).mono ?_; rintro e w6 ⟨rfl, hA6⟩; have H6 := hid (And.intro (H5.out.1.adds hA6) (H5.out.2.trans hA6)); have d0 := H0.out w6 H6.out.2; have d1 := H1c.out w6 H6.out.2; clear hA6))
      have hcv := HCV.out w6.drew ay cy (H6.out.1.adds (Touch.refl _ w6).drew)
      have hcv' := HCV.out w6 ay cy H6.out.1
      go_cut [10, 11] (fun t10 t11 wx => t10 = .int .i64 z1 ∧ t11 = .int .i64 1 ∧ Hid (∃ O', IsRO wx O' p D1 ∧ Touch OR w wx ∧ ∀ k, O' k → OR k ∨ (w.heap.size ≤ k ∧ k < wx.heap.size)))
      case first =>
        go_region_with (go_at_call 49; refine (HOv.out _ (by first | exact H6.out.2.drew | exact H6.out.2) _ (by first | exact HI.out | exact i64_smallV HI.out (by omega) (by omega))).mono ?_; rintro e w7 ⟨rfl, H7⟩)
        all_goals
          go_wp2_with fail
          go_meet
          obtain ⟨O', hD', hT', hO'⟩ := H7.out
          have hs := H6.out.2.size
          exact ⟨rfl, rfl, O', hD', (H6.out.2.drew.mono (fun _ _ c => c.elim)).trans hT', fun k q => (hO' k q).imp id (fun c => ⟨Nat.le_trans hs (by have c1 := c.1; simp at c1; omega), c.2⟩)⟩
      case rest =>
        obtain ⟨rfl, rfl, H7⟩ := hcut
        obtain ⟨O7, hD7, hT7, hO7⟩ := H7.out
        have H8 := hid (And.intro hD7 (And.intro hT7 hO7))
        clear hD7 hT7 hO7 H7 hcv hcv'
        by_cases hz1 : z1 = 0
        · subst hz1
          have d07 := cellOf (HAll.out.1.touch H8.out.2.1 HAll.out.2.1).box 0
          by_cases hz2 : z2 = 0
          · subst hz2
            obtain ⟨rfl, rfl, rfl⟩ := HR3.out rfl rfl
            go_upto_region 20 with (first
              | (go_at_call 50; refine (HSy.out _ O7 H8.out.1).mono ?_; rintro e w9 hq9; obtain ⟨rfl, hq10⟩ := PRo.next H8.out.2.1 H8.out.2.2 hq9; clear hq9))
            obtain ⟨O', hD', hT', hO'⟩ := hq10.out
            have H9 := hid (And.intro hD' (And.intro hT' hO'))
            clear hD' hT' hO' hq10
            have M9 := hid (HAll.out.1.touch H9.out.2.1 HAll.out.2.1)
            have N9 := hid (HNs.out.1.touch H9.out.2.1 HNs.out.2.1)
            obtain ⟨wA, hwA⟩ : ∃ wA, wA = (w9.alloc (.cells #[] 67)).drew := ⟨_, rfl⟩
            have hAA : Adds w9 wA := by rw [hwA]; exact ((Touch.refl _ w9).alloc _).drew
            have HRA := hid (show wA.ownsRow 0 67 1 (.slice (some ⟨w9.heap.size, 0, none⟩) 0 0) 0 [] by rw [hwA]; exact row_touch (World.ownsRow_lit (base := 0) (e := 67) (size := 1) w9 #[] 0 (Nat.zero_le _) (by decide) rfl) (Touch.refl (fun _ => False) _).drew (fun _ _ => id))
            have HAA := hid hAA
            clear hAA
            refine E_begin (S := fun _ : World => True) (X := 11) (by kernel_rfl) ?_
            refine E_put (i := 0) 76 (v := Ptr m) rfl rfl (by kernel_rfl) (by kernel_rfl) (by kernel_rfl) (by kernel_rfl) (fun _ _ _ h => h) (Or.inl ⟨by rfl, fun _ _ => by rfl⟩) trivial ?_
            simp only [Act.put, List.setIfInBounds_toArray, List.set_cons_zero, List.set_cons_succ]
            refine E_put (i := 1) 77 (v := .int .i64 1) rfl rfl (by kernel_rfl) (by kernel_rfl) (by kernel_rfl) (by kernel_rfl) (fun _ _ _ h => h) (Or.inl ⟨by rfl, fun _ _ => by rfl⟩) trivial ?_
            simp only [Act.put, List.setIfInBounds_toArray, List.set_cons_zero, List.set_cons_succ]
            refine E_put (i := 2) 78 (v := .int .i64 (e : Int)) rfl rfl (by kernel_rfl) (by kernel_rfl) (by kernel_rfl) (by kernel_rfl) (fun _ _ _ h => h) (Or.inl ⟨by rfl, fun _ _ => by rfl⟩) trivial ?_
            simp only [Act.put, List.setIfInBounds_toArray, List.set_cons_zero, List.set_cons_succ]
            refine E_put (i := 4) 80 (v := .slice a k cap) rfl rfl (by kernel_rfl) (by kernel_rfl) (by kernel_rfl) (by kernel_rfl) (fun _ _ _ h => h) (Or.inl ⟨by rfl, fun _ _ => by rfl⟩) trivial ?_
            simp only [Act.put, List.setIfInBounds_toArray, List.set_cons_zero, List.set_cons_succ]
            refine E_put (i := 7) 83 (v := Ptr m) rfl rfl (by kernel_rfl) (by kernel_rfl) (by kernel_rfl) (by kernel_rfl) (fun _ _ _ h => h) (Or.inl ⟨by rfl, fun _ _ => by go_simp⟩) trivial ?_
            simp only [Act.put, List.setIfInBounds_toArray, List.set_cons_zero, List.set_cons_succ]
            refine E_put (i := 8) 84 (v := .pointer (some ⟨m, 2, none⟩)) rfl rfl (by kernel_rfl) (by kernel_rfl) (by kernel_rfl) (by kernel_rfl) (fun _ _ _ h => h) (Or.inl ⟨by rfl, fun _ _ => by go_simp⟩) trivial ?_
            simp only [Act.put, List.setIfInBounds_toArray, List.set_cons_zero, List.set_cons_succ]
            refine E_do (i := 3) (some 79) (by kernel_rfl) rfl rfl rfl (fun K hK => ?_)
            go_simp
            rw [← hwA]
            refine hK (.slice (some ⟨w9.heap.size, 0, none⟩) 0 0) wA (fun _ => trivial) ?_
            clear hK K hwA
            simp only [Act.put, List.setIfInBounds_toArray, List.set_cons_zero, List.set_cons_succ]
            refine E_do (i := 5) (some 81) (by kernel_rfl) rfl rfl rfl (fun K hK => ?_)
            refine wp_append_um _ _ rfl (.slice (some ⟨w9.heap.size, 0, none⟩) 0 0) 0 [] rfl HRA.out a k cap ns HNs.out.2.2 rfl N9.out.non (N9.out.at_.adds HAA.out) (by omega) ?_
            intro vB wB GB
            have HGB := hid GB
            obtain ⟨aB, cB, hvB, _, hnB, hqB⟩ := own_cq GB.1
            rw [Nat.zero_add] at hvB
            subst hvB
            have hloB : ∀ j, (Value.slice aB k cB).ownBlock = some j → w9.heap.size ≤ j := GB.lt (by have := HAA.out.size; omega) (fun j hj => by cases hj; exact Nat.le_refl _)
            have HQB := hid (show NQ wB (fun j => w9.heap.size ≤ j) ⟨aB, cB, ns⟩ from ⟨by
              have q := hqB.mono (Q' := fun j => w9.heap.size ≤ j) (fun j _ c => hloB j c)
              rw [List.nil_append] at q
              exact q, hnB⟩)
            have HAB := hid (show Adds w9 wB from HAA.out.then GB.touch (fun j hj c => by cases c; exact absurd hj (Nat.lt_irrefl _)))
            refine hK _ wB (fun _ => trivial) ?_
            clear hK K GB hqB hnB hloB
            simp only [Act.put, List.setIfInBounds_toArray, List.set_cons_zero, List.set_cons_succ]
            have hbl := build_rslot2 (e : Int) aB k cB wB
            refine E_do (i := 6) (some 82) (by kernel_rfl) rfl rfl rfl (fun K hK => ?_)
            go_simp
            refine hK (.agg #[.int .i64 (e : Int), .slice aB k cB]) wB (fun _ => trivial) ?_
            clear hK K hbl
            simp only [Act.put, List.setIfInBounds_toArray, List.set_cons_zero, List.set_cons_succ]
            have hMB := M9.out.touch HAB.out (fun _ _ => id)
            have c2 := cellOf hMB.box 4
            have c3 := cellOf hMB.box 5
            have f2 := frozen_of_row wB _ 4 _ 88 hMB.box
            have f3 := frozen_of_row wB _ 5 _ 88 hMB.box
            clear hMB
            refine E_do (i := 9) (some 85) (by kernel_rfl) rfl rfl rfl (fun K hK => ?_)
            go_simp
            refine hK (.pointer (some ⟨m, 4, none⟩)) wB (fun _ => trivial) ?_
            clear hK K
            simp only [Act.put, List.setIfInBounds_toArray, List.set_cons_zero, List.set_cons_succ]
            refine E_do (i := 10) none (by kernel_rfl) rfl rfl rfl (fun K hK => ?_)
            go_simp
            refine hK undef _ (fun _ => trivial) ?_
            clear hK K
            simp only [Act.put]
            refine E_done (by kernel_rfl) ?_ _
            clear c2 c3 f2 f3
            go_wp2_with fail
            go_ret
            have q := rsav_up HAll.out.1 HAll.out.2.1 HAll.out.2.2 H9.out.1 H9.out.2.1 H9.out.2.2 HAB.out (i := 1) (by decide) (z := ⟨aB, cB, ns⟩) (sl := ⟨e, ns⟩) rfl HQB.out rfl
            rw [HOT.out]
            rw [← HNs.out.2.2]
            exact q
          · obtain ⟨rfl, rfl, rfl⟩ := HR2.out rfl hz2
            go_wp2_with (first
              | (go_at_call 50; refine (HSy.out _ O7 H8.out.1).mono ?_; rintro e w9 hq9; obtain ⟨rfl, hq10⟩ := PRo.next H8.out.2.1 H8.out.2.2 hq9; clear hq9))
            go_ret
            exact rsav_down HAll.out.1 HAll.out.2.1 HAll.out.2.2 hq10.out
        · obtain ⟨rfl, rfl, rfl⟩ := HR1.out hz1
          go_wp2_with fail
          go_ret
          exact rsav_down HAll.out.1 HAll.out.2.1 HAll.out.2.2 ⟨O7, H8.out.1, H8.out.2.1, H8.out.2.2⟩
end Go.Proofs.YtmmgfankbabfbaaDoor

/- The reference's Save, whatever is handed in. -/
namespace Go.Proofs.YtmmgfankbabfbaaDoor
open Go.RowKit
set_option maxRecDepth 100000 in
theorem rsave_go {w : World} {OM OR Q : Nat → Prop} {m p : Nat} {x y : NPart} {s s' : U.MS} {D D1 D2 D' : dSt} {z1 z2 z : Int} {n0 : Nat} (h : IsRMV w OM m (Ptr p) x y s) (hD : IsRO w OR p D) (hap : ∀ k, OM k → ¬ OR k) (hlt : ∀ k, OM k ∨ OR k → k < w.heap.size) (hdk : DOk D n0) (hn0 : n0 ≤ 790) (hsz : (s.at_ : Int) + 2 ≤ D.size) (hs2 : D.size ≤ 4096)
    (a : Option Addr) (n cap : Nat) (ns : List Nat) (hn : ns.length = n) (hF : U.Fit ns) (hA : NQ w Q ⟨a, cap, ns⟩) (hQ : ∀ k, Q k → ¬ OR k) (e : Nat) (he : s.lat.ep < e ∧ e ≤ 1000000000)
    (h1 : (if D.left = 0 then (10, D) else (0, D.wrote (savW s ns e).1 (savW s ns e).2)) = (z1, D1)) (h2 : (if D1.left = 0 then (10, D1) else (0, D1.synced)) = (z2, D2)) (hd1 : DOk D1 (n0 + 1))
    (hr1 : z1 ≠ 0 → z = z1 ∧ D' = D1 ∧ s' = s) (hr2 : z1 = 0 → z2 ≠ 0 → z = z2 ∧ D' = D2 ∧ s' = s) (hr3 : z1 = 0 → z2 = 0 → z = 0 ∧ D' = D2 ∧ s' = s.put s.other ⟨e, ns⟩) :
    Calls Tryd.prog 25 #[Ptr m, .slice a n cap, .int .i64 (e : Int)] w (PRSav w OM OR m p s' D' z) := by
  rcases (show s.other = 0 ∨ s.other = 1 by have := other_lt s; omega) with hot | hot
  · exact rsave_go0 h hD hap hlt hdk hn0 hsz hs2 a n cap ns hn hF hA hQ e he hot h1 h2 hd1 hr1 hr2 hr3
  · exact rsave_go1 h hD hap hlt hdk hn0 hsz hs2 a n cap ns hn hF hA hQ e he hot h1 h2 hd1 hr1 hr2 hr3
set_option maxRecDepth 100000 in
theorem rsave_any {w : World} {OM OR Q : Nat → Prop} {m p : Nat} {s : U.MS} {D : dSt} {n0 : Nat} (h : IsRM w OM m p s) (hD : IsRO w OR p D) (hap : ∀ k, OM k → ¬ OR k) (hlt : ∀ k, OM k ∨ OR k → k < w.heap.size) (hdk : DOk D n0) (hn0 : n0 ≤ 790) (hsz : (s.at_ : Int) + 2 ≤ D.size) (hs2 : D.size ≤ 4096)
    (a : Option Addr) (n cap : Nat) (ns : List Nat) (hn : ns.length = n) (hF : ∀ k ∈ ns, k < 18446744073709551616) (hA : NQ w Q ⟨a, cap, ns⟩) (hQ : ∀ k, Q k → ¬ OR k) (e : Int) :
    Calls Tryd.prog 25 #[Ptr m, .slice a n cap, .int .i64 e] w (PRSav w OM OR m p (savM s ns e D) (savD s ns e D) (savE s ns e D)) := by
  obtain ⟨x, y, h⟩ := h
  by_cases hb : e ≤ s.lat.ep ∨ 1000000000 < e
  · rw [savM, savD, savE, if_pos hb, if_pos hb, if_pos hb]
    exact rsave_bad h hD hap a n cap e 2 (.inl ⟨hb, rfl⟩)
  · rw [savM, savD, savE, if_neg hb, if_neg hb, if_neg hb]
    by_cases hl : 20 < ns.length
    · rw [if_pos hl, if_pos hl, if_pos hl]
      exact rsave_bad h hD hap a n cap e 3 (.inr ⟨hb, by omega, rfl⟩)
    · rw [if_neg hl, if_neg hl, if_neg hl]
      obtain ⟨k, rfl⟩ : ∃ k : Nat, e = (k : Int) := ⟨e.toNat, by omega⟩
      rw [Int.toNat_natCast]
      have he : s.lat.ep < k ∧ k ≤ 1000000000 := ⟨by omega, by omega⟩
      obtain ⟨z1, D1, h1⟩ : ∃ z1 D1, (if D.left = 0 then (10, D) else (0, D.wrote (savW s ns k).1 (savW s ns k).2)) = ((z1 : Int), D1) := ⟨_, _, rfl⟩
      obtain ⟨z2, D2, h2⟩ : ∃ z2 D2, (if D1.left = 0 then (10, D1) else (0, D1.synced)) = ((z2 : Int), D2) := ⟨_, _, rfl⟩
      have hd1 : DOk D1 (n0 + 1) := by
        by_cases hon : D.left = 0
        · rw [if_pos hon] at h1
          cases h1
          exact hdk.mono (by omega)
        · rw [if_neg hon] at h1
          cases h1
          exact hdk.wrote _ _
      refine rsave_go h hD hap hlt hdk hn0 hsz hs2 a n cap ns hn ⟨by omega, hF⟩ hA hQ k he h1 h2 hd1 (fun hz => ?_) (fun hz hz2 => ?_) (fun hz hz2 => ?_)
      · by_cases hon : D.left = 0
        · rw [if_pos hon] at h1
          cases h1
          have hr : savR s ns k D = (10, D) := by unfold savR goW; rw [if_pos hon]
          rw [hr]
          exact ⟨rfl, rfl, by rw [if_neg (show ¬ (10 : Int) = 0 by decide)]⟩
        · rw [if_neg hon] at h1
          cases h1
          exact absurd rfl hz
      · have hon : ¬ D.left = 0 := fun c => by
          rw [if_pos c] at h1
          cases h1
          exact absurd hz (by decide)
        rw [if_neg hon] at h1
        cases h1
        have hr : savR s ns k D = (z2, D2) := by
          unfold savR goW
          rw [if_neg hon]
          exact h2
        rw [hr]
        exact ⟨rfl, rfl, by rw [if_neg hz2]⟩
      · have hon : ¬ D.left = 0 := fun c => by
          rw [if_pos c] at h1
          cases h1
          exact absurd hz (by decide)
        rw [if_neg hon] at h1
        cases h1
        have hr : savR s ns k D = (z2, D2) := by
          unfold savR goW
          rw [if_neg hon]
          exact h2
        rw [hr]
        exact ⟨hz2, rfl, by rw [if_pos hz2]⟩
end Go.Proofs.YtmmgfankbabfbaaDoor
