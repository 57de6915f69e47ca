/- Texts put together: NVl, NConS, NConB, NConI. -/
import Derived.Test.YtplppnngmlljnaaQ09
import Derived.Deep.RegionWith
/- Lists of cells that lie in a row. -/
namespace Go.Proofs.Ytplppnngmlljnaa
open Go.RowKit

/-- A list of cells. -/
structure Vl where
  a : Option Addr
  cap : Nat
  l : List Value
/-- A new list of cells. -/
def POwnV (el : TypeId) (w : World) (xs : List Value) (e : Ending) (w' : World) : Prop := ∃ v, e = .returned v ∧ Hid (w'.ownsRow w.heap.size el 1 v xs.length xs ∧ Adds w w')
def flatV (L : List Vl) : List Value := (L.map (·.l)).flatten
theorem flatV_next {L : List Vl} {k : Nat} {x : Vl} (h : L[k]? = some x) : flatV (L.take (k + 1)) = flatV (L.take k) ++ x.l := by
  unfold flatV
  rw [List.take_add_one, h]; simp
theorem flatV_len (L : List Vl) (k : Nat) : (flatV (L.take k)).length ≤ (flatV L).length := by
  have : flatV L = flatV (L.take k) ++ flatV (L.drop k) := by
    unfold flatV
    rw [← List.flatten_append, ← List.map_append, List.take_append_drop]
  rw [this, List.length_append]; omega
def VParts (w : World) (g : Nat) (L : List Vl) : Prop := ∀ j x, L[j]? = some x → w.cell? ⟨g, j, none⟩ = some (.slice x.a x.l.length x.cap) ∧ CQ w (fun _ => True) x.a x.l ∧ (x.a = none → x.cap = 0) ∧ ∀ u ∈ x.l, u.oneCell' = true
theorem VParts.adds {w w' : World} {g : Nat} {L : List Vl} (h : VParts w g L) (hA : Adds w w') : VParts w' g L := by
  intro j x hj
  obtain ⟨h1, h2, h3⟩ := h j x hj
  exact ⟨below_adds hA h1, h2.adds hA, h3⟩
/-- Where a slice begins that has lost its first cells. -/
def sufA (a : Option Addr) (cap n : Nat) : Option Addr := if cap = n then a else a.map (·.add n)
theorem CQ.takA {w : World} {Q : Nat → Prop} {a : Option Addr} {xs : List Value} (h : CQ w Q a xs) (n : Nat) : CQ w Q a (xs.take n) := by
  intro j u hj
  rw [List.getElem?_take] at hj
  split at hj
  · exact h j u hj
  · cases hj
theorem CQ.dropA {w : World} {Q : Nat → Prop} {a : Option Addr} {xs : List Value} (h : CQ w Q a xs) (cap n : Nat) (hc : xs.length ≤ cap) : CQ w Q (sufA a cap n) (xs.drop n) := by
  unfold sufA
  by_cases hn : cap = n
  · rw [List.drop_eq_nil_of_le (by omega)]; exact CQ.nil _ _ _
  · rw [if_neg hn]
    intro j c hj
    rw [List.getElem?_drop] at hj
    obtain ⟨b, o, rfl, hq, hcell⟩ := h _ c hj
    exact ⟨b, o + n, by simp [Addr.add_mid], hq, by rw [Nat.add_assoc]; exact hcell⟩
theorem sufA_none {a : Option Addr} {cap n : Nat} (ha : a = none → cap = 0) (h : sufA a cap n = none) : cap - n = 0 := by
  unfold sufA at h
  split at h
  · omega
  · cases a with
    | none => have := ha rfl; omega
    | some ad => cases h
theorem three_parts {w W : World} {a b : Option Addr} {xs ys : List Value} {n cap m bcap i j g : Nat} {Q Q' : Nat → Prop} (hA : Adds w W) (hn : xs.length = n) (hm : ys.length = m) (hc : n ≤ cap) (hi : i ≤ n) (hx : CQ w Q a xs) (hy : CQ w Q' b ys) (ha : a = none → cap = 0) (hb : b = none → bcap = 0) (h1 : ∀ u ∈ xs, u.oneCell' = true) (h2 : ∀ u ∈ ys, u.oneCell' = true)
    (c0 : W.cell? ⟨g, 0, none⟩ = some (.slice a i cap)) (c1 : W.cell? ⟨g, 1, none⟩ = some (.slice b m bcap)) (c2 : W.cell? ⟨g, 2, none⟩ = some (.slice (sufA a cap j) (n - j) (cap - j))) :
    VParts W g [⟨a, cap, xs.take i⟩, ⟨b, bcap, ys⟩, ⟨sufA a cap j, cap - j, xs.drop j⟩] := by
  intro k x hk
  match k, hk with
  | 0, hk =>
    obtain rfl := Option.some.inj hk
    exact ⟨by rw [c0]; congr 2; rw [List.length_take]; omega, ((hx.takA i).adds hA).mono (fun _ _ _ => trivial), ha, fun u hu => h1 u (List.mem_of_mem_take hu)⟩
  | 1, hk =>
    obtain rfl := Option.some.inj hk
    exact ⟨by rw [c1, hm], (hy.adds hA).mono (fun _ _ _ => trivial), hb, h2⟩
  | 2, hk =>
    obtain rfl := Option.some.inj hk
    exact ⟨by rw [c2]; congr 2; rw [List.length_drop]; omega, ((hx.dropA cap j (by omega)).adds hA).mono (fun _ _ _ => trivial), sufA_none ha, fun u hu => h1 u (List.mem_of_mem_drop hu)⟩
theorem POwnV.later {el : TypeId} {w w1 w2 : World} {xs : List Value} {v : Value} (h : w2.ownsRow w1.heap.size el 1 v xs.length xs ∧ Adds w1 w2) (hA : Adds w w1) : POwnV el w xs (.returned v) w2 := ⟨v, rfl, ⟨h.1.1, h.1.2.imp id (fun ⟨g, cap, cur, e, hb, r⟩ => ⟨g, cap, cur, e, Nat.le_trans hA.size hb, r⟩)⟩, hA.trans h.2⟩
end Go.Proofs.Ytplppnngmlljnaa

/- Lists of texts, one behind the other: Grow, Concat, splice. -/
namespace Go.Proofs.Ytplppnngmlljnaa
open Go.RowKit

theorem infoES : ∃ i, Try.prog.info? 9 = some i ∧ i.zero = some (.string ⟨#[]⟩) ∧ i.size = 1 ∧ i.bytes = 16 := by
  have h : (Try.prog.info? 9).map (fun i => (i.zero, i.size, i.bytes)) = some (some (.string ⟨#[]⟩), 1, 16) := by kernel_rfl
  cases hq : Try.prog.info? 9 with
  | none => rw [hq] at h; cases h
  | some i =>
    rw [hq] at h
    simp only [Option.map_some, Option.some.injEq, Prod.mk.injEq] at h
    exact ⟨i, rfl, h.1, h.2.1, h.2.2⟩
theorem append_vS {w : World} {ops : Array Oper} {rest : List Oper} {o : Oper} {act : Act} {Q : Exit → Act → World → Prop} {Q' : Nat → Prop} (hgd : o.guard = none) (s x : Operand)
    (ho : o.op = .call { callee := .builtin .append, args := #[s, x], argTypes := #[22, 22] }) (base : Nat) (v : Value) (n : Nat) (xs : List Value) (hs : act.eval s = v) (hown : w.ownsRow base 9 1 v n xs)
    (a : Option Addr) (m cap : Nat) (news : List Value) (hm : news.length = m) (hx : act.eval x = .slice a m cap) (hcap : a = none → cap = 0) (hA : CQ w Q' a news) (h1 : ∀ u ∈ news, u.oneCell' = true) (hlen : n + m ≤ 10000000) (hbase : base ≤ w.heap.size)
    (h : ∀ v' w', w'.ownsRow base 9 1 v' (n + m) (xs ++ news) → w.grownBy w' v.ownBlock → wpList Try.prog ops Q rest (act.put o.dst v') w') : wpList Try.prog ops Q (o :: rest) act w := by
  obtain ⟨i0, hi, hz0, hz1, hz2⟩ := infoES
  cases a with
  | none =>
    obtain rfl := hcap rfl
    obtain rfl : news = [] := by
      cases news with
      | nil => rfl
      | cons u l => obtain ⟨b, o', e, _⟩ := hA 0 u rfl; cases e
    obtain rfl : m = 0 := by rw [← hm]; rfl
    exact wpList_append_own_none hgd s x 22 ho base 9 i0 1 Try.underlying22 hi v n xs hs hown hx (h v w (by simpa using hown) ⟨rfl, rfl, rfl, Nat.le_refl _, fun _ _ _ => rfl⟩)
  | some ad =>
    refine wpList_append_own_at _ hgd s x 22 ho base 9 i0 (.string ⟨#[]⟩) 1 16 Try.underlying22 hi hz0 hz1 hz2 rfl (by decide) v n xs hs hown ad m cap news hx (by omega) ?_ h1 (by unfold maxLen; omega) (by omega) hbase (fun v' w' g1 g2 _ _ => h v' w' g1 g2)
    intro j y hj
    obtain ⟨b, o', e, _, hc⟩ := hA j y hj
    obtain rfl : ad = ⟨b, o', none⟩ := by simpa using e
    rw [Addr.add_mid]; exact hc
theorem zerosVS (n : Nat) : (Builtin.zeroCells #[.string ⟨#[]⟩] n).size = n := by simp [Builtin.zeroCells]
set_option maxHeartbeats 400000 in
theorem growVS_none (w : World) : Calls Try.prog 95 #[.slice none 0 0, .int .i64 0] w fun e w' => e = .returned (.slice none 0 0) ∧ w' = w := by
  go_enter Try.func95, Try.ntmps95
  go_wp2
  go_ret
  exact ⟨rfl, rfl⟩
set_option maxHeartbeats 400000 in
theorem growVS_some (n : Nat) (hn : 0 < n) (hn2 : n ≤ 10000000) (w : World) : Calls Try.prog 95 #[.slice none 0 0, .int .i64 (n : Int)] w (POwnV 9 w []) := by
  obtain ⟨i0, hi, hz0, hz1, hz2⟩ := infoES
  have hr := hid (fun ty => Lib.run_append_nil_zeros (P := Try.prog) w 22 3 ty 9 i0 (.string ⟨#[]⟩) .i64 .i64 Try.underlying22 Try.underlying3 hi hz0 n hn (by omega) (by omega) (by rw [hz2]; omega))
  clear hi hz0 hz1 hz2
  have hn' : (0 : Int) < (n : Int) := by omega
  go_enter Try.func95, Try.ntmps95
  go_wp2_with (first | (at_builtin; refine Lib.wpList_append_run _ rfl _ _ _ _ rfl _ _ rfl rfl _ _ (hr.out _) ?_))
  go_ret
  refine ⟨.slice (some ⟨w.heap.size, 0, none⟩) 0 (grownCap w n 0 9), rfl, ?_, (Touch.refl _ w).drew.alloc _⟩
  refine World.ownsRow_made (base := w.heap.size) w.drew _ _ (Nat.le_refl _) (grownCap_le_maxLen w n 0 9 (by unfold maxLen; omega)) ?_
  rw [Array.size_append, zerosVS, zerosVS]
  have := grownCap_ge w n 0 9
  omega
theorem growVS_v (n : Nat) (hn : n ≤ 10000000) (w : World) : Calls Try.prog 95 #[.slice none 0 0, .int .i64 (n : Int)] w (POwnV 9 w []) := by
  rcases Nat.eq_zero_or_pos n with rfl | h0
  · refine (growVS_none w).mono ?_
    rintro e w' ⟨rfl, rfl⟩
    exact ⟨_, rfl, World.ownsRow_nil _ _ _ _, Touch.refl _ _⟩
  · exact growVS_some n h0 hn w
set_option maxRecDepth 100000 in
set_option maxHeartbeats 1000000 in
theorem concatS_v (g : Nat) (L : List Vl) (w : World) (hL : L.length ≤ 1000) (hf : (flatV L).length ≤ 10000000) (hP : VParts w g L) : Calls Try.prog 84 #[.slice (some ⟨g, 0, none⟩) L.length L.length] w (POwnV 9 w (flatV L)) := by
  have HP := hid hP
  have HG := hid (growVS_v (flatV L).length hf w)
  clear hP
  go_enter Try.func84, Try.ntmps84
  go_wp2
  go_loopw [3, 11] (fun x i wr => ∃ k : Nat, k ≤ L.length ∧ x = .int .i64 ((flatV (L.take k)).length : Int) ∧ i = .int .i64 (k : Int) ∧ wr = w) (fun _ i _ => L.length - (intOf i).toNat)
  case atStart => exact ⟨0, by omega, rfl, rfl, rfl⟩
  case round =>
    obtain ⟨k, hk, rfl, rfl, hw⟩ := hrel
    obtain rfl := hw.symm
    by_cases hlt : k < L.length
    · obtain ⟨x, hx⟩ : ∃ x, L[k]? = some x := ⟨L[k], List.getElem?_eq_getElem hlt⟩
      obtain ⟨hcell, _⟩ := HP.out k x hx
      have hn := flatV_len L (k + 1)
      have HN := hid (show (flatV (L.take (k + 1))).length = (flatV (L.take k)).length + x.l.length by rw [flatV_next hx, List.length_append])
      rw [HN.out] at hn
      clear hx
      generalize (flatV (L.take k)).length = y at *
      go_wp2
      go_roundw
      case rel => exact ⟨k + 1, by omega, by rw [HN.out]; simp, by go_num, by first | rfl | trivial⟩
      case measure => simp [intOf]; omega
    · obtain rfl : k = L.length := by omega
      rw [List.take_length]
      go_wp2_with (first | (go_at_call 95; refine HG.out.mono ?_; rintro e w1 ⟨v0, rfl, h1, h2⟩; have HQ := hid (And.intro h1 h2); clear h1 h2))
      go_loopw [6, 27] (fun v i wz => ∃ k : Nat, k ≤ L.length ∧ i = .int .i64 (k : Int) ∧ Hid (wz.ownsRow w.heap.size 9 1 v (flatV (L.take k)).length (flatV (L.take k)) ∧ Adds w wz)) (fun _ i _ => L.length - (intOf i).toNat)
      case atStart => exact ⟨0, by omega, rfl, HQ.out.1, HQ.out.2⟩
      case round =>
        obtain ⟨k, hk, rfl, HI⟩ := hrel
        by_cases hlt : k < L.length
        · obtain ⟨x, hx⟩ : ∃ x, L[k]? = some x := ⟨L[k], List.getElem?_eq_getElem hlt⟩
          obtain ⟨hcell, hG⟩ := (HP.out.adds HI.out.2) k x hx
          have HN := hid (flatV_next hx)
          have hn := flatV_len L (k + 1)
          rw [HN.out, List.length_append] at hn
          have HA := hid (And.intro hG hn)
          clear hx hG hn
          go_wp2_with (first
            | (at_builtin; refine append_vS rfl _ _ rfl w.heap.size _ (flatV (L.take k)).length (flatV (L.take k)) rfl HI.out.1 x.a x.l.length x.cap x.l rfl rfl HA.out.1.2.1 HA.out.1.1 HA.out.1.2.2 (by have := HA.out.2; omega) HI.out.2.size ?_; intro v1 w1 hown1 hgrow1; have HQ1 := hid (And.intro hown1 hgrow1); clear hown1 hgrow1))
          go_roundw
          case rel =>
            refine ⟨k + 1, by omega, by go_num, ?_, ?_⟩
            · have h := HQ1.out.1
              rw [HN.out, List.length_append]
              exact h
            · exact Touch.grown HI.out.2 HQ1.out.2 (fun j hj hlt => by have := (HI.out.1.lt j hj).1; omega)
          case measure => simp [intOf]; omega
        · obtain rfl : k = L.length := by omega
          go_wp2
          go_ret
          have h := HI.out.1
          rw [List.take_length] at h
          exact ⟨_, rfl, h, HI.out.2⟩
set_option maxRecDepth 100000 in
theorem run_preVS (a : Option Addr) (len cap n : Nat) (hn : n ≤ cap) (w : World) : (Instr.sliceAt 22 (.slice a len cap) none (some (.int .i64 (n : Int))) none).run Try.prog w = .ok (.slice a n cap) w := by
  have hsz : (sizeOf 9).run Try.prog w = .ok 1 w := by kernel_rfl
  rw [run_sliceAt_slice w 22 _ _ _ _ Try.underlying22, run_slice_h w 22 a len cap Try.underlying22 .i64 n (by omega) (by omega)]
  have he : Try.prog.elem 22 = 9 := by kernel_rfl
  rw [he, hsz]
  simp only [Result.andThen, sliced, Int.toNat_natCast, Nat.zero_mul, Nat.sub_zero]
  congr 2
  split
  · rfl
  · cases a <;> rfl
set_option maxRecDepth 100000 in
theorem run_sufVS (a : Option Addr) (len cap n : Nat) (hn : n ≤ len) (w : World) : (Instr.sliceAt 22 (.slice a len cap) (some (.int .i64 (n : Int))) none none).run Try.prog w = .ok (.slice (sufA a cap n) (len - n) (cap - n)) w := by
  have hsz : (sizeOf 9).run Try.prog w = .ok 1 w := by kernel_rfl
  rw [run_sliceAt_slice w 22 _ _ _ _ Try.underlying22, run_slice_l w 22 a len cap Try.underlying22 .i64 n (by omega) (by omega)]
  have he : Try.prog.elem 22 = 9 := by kernel_rfl
  rw [he, hsz]
  simp only [Result.andThen, sliced, Int.toNat_natCast, Nat.mul_one]
  rfl
set_option maxRecDepth 100000 in
set_option maxHeartbeats 2000000 in
theorem spliceS_any (a b : Option Addr) (xs ys : List Value) (n cap m bcap i j : Nat) (w : World) {Q Q' : Nat → Prop} (hn : xs.length = n) (hm : ys.length = m) (hc : n ≤ cap) (hi : i ≤ n) (hj : j ≤ n) (hn9 : n ≤ 1000) (hm9 : m ≤ 1000) (hx : CQ w Q a xs) (hy : CQ w Q' b ys) (ha : a = none → cap = 0) (hb : b = none → bcap = 0) (h1 : ∀ u ∈ xs, u.oneCell' = true) (h2 : ∀ u ∈ ys, u.oneCell' = true) :
    Calls Try.prog 61 #[.slice a n cap, .int .i64 (i : Int), .int .i64 (j : Int), .slice b m bcap] w (POwnV 9 w (xs.take i ++ (ys ++ xs.drop j))) := by
  have HC := hid (fun (W : World) (hA : Adds w W) (g : Nat) (c0 : W.cell? ⟨g, 0, none⟩ = some (.slice a i cap)) (c1 : W.cell? ⟨g, 1, none⟩ = some (.slice b m bcap)) (c2 : W.cell? ⟨g, 2, none⟩ = some (.slice (sufA a cap j) (n - j) (cap - j))) =>
    show Calls Try.prog 84 #[.slice (some ⟨g, 0, none⟩) 3 3] W (POwnV 9 W (xs.take i ++ (ys ++ xs.drop j))) by
      have q := concatS_v g [⟨a, cap, xs.take i⟩, ⟨b, bcap, ys⟩, ⟨sufA a cap j, cap - j, xs.drop j⟩] W (by simp) (by simp [flatV]; omega) (three_parts hA hn hm hc hi hx hy ha hb h1 h2 c0 c1 c2)
      rw [show flatV [⟨a, cap, xs.take i⟩, ⟨b, bcap, ys⟩, ⟨sufA a cap j, cap - j, xs.drop j⟩] = xs.take i ++ (ys ++ xs.drop j) by simp [flatV]] at q
      exact q)
  have hs1 := run_preVS a n cap i (by omega)
  have hs2 := run_sufVS a n cap j hj
  generalize xs.take i ++ (ys ++ xs.drop j) = out at HC ⊢
  clear hx hy ha hb h1 h2 hn hm
  go_enter Try.func61, Try.ntmps61
  go_upto_region 1 with fail
  go_region_with (first
    | (go_at_call 84; refine (HC.out _ ((Touch.refl _ w).drew.alloc _) _ (cellOf (heap_alloc_new w.drew _) 0) (cellOf (heap_alloc_new w.drew _) 1) (cellOf (heap_alloc_new w.drew _) 2)).mono ?_; rintro e w1 ⟨v1, rfl, h1⟩; have H1 := hid h1; clear h1)
    | (go_at_call 84; refine (HC.out _ ((Touch.refl _ w).alloc _).drew _ (cellOf (w := (w.alloc _).drew) (heap_alloc_new w _) 0) (cellOf (w := (w.alloc _).drew) (heap_alloc_new w _) 1) (cellOf (w := (w.alloc _).drew) (heap_alloc_new w _) 2)).mono ?_; rintro e w1 ⟨v1, rfl, h1⟩; have H1 := hid h1; clear h1))
  go_wp2_with fail
  go_ret
  exact POwnV.later H1.out (by first | exact ((Touch.refl _ w).alloc _).drew | exact (Touch.refl _ w).drew.alloc _)
end Go.Proofs.Ytplppnngmlljnaa

/- Lists of slices of bytes, one behind the other: Grow, Concat, splice. -/
namespace Go.Proofs.Ytplppnngmlljnaa
open Go.RowKit

theorem infoEB : ∃ i, Try.prog.info? 30 = some i ∧ i.zero = some (.slice none 0 0) ∧ i.size = 1 ∧ i.bytes = 24 := by
  have h : (Try.prog.info? 30).map (fun i => (i.zero, i.size, i.bytes)) = some (some (.slice none 0 0), 1, 24) := by kernel_rfl
  cases hq : Try.prog.info? 30 with
  | none => rw [hq] at h; cases h
  | some i =>
    rw [hq] at h
    simp only [Option.map_some, Option.some.injEq, Prod.mk.injEq] at h
    exact ⟨i, rfl, h.1, h.2.1, h.2.2⟩
theorem append_vB {w : World} {ops : Array Oper} {rest : List Oper} {o : Oper} {act : Act} {Q : Exit → Act → World → Prop} {Q' : Nat → Prop} (hgd : o.guard = none) (s x : Operand)
    (ho : o.op = .call { callee := .builtin .append, args := #[s, x], argTypes := #[23, 23] }) (base : Nat) (v : Value) (n : Nat) (xs : List Value) (hs : act.eval s = v) (hown : w.ownsRow base 30 1 v n xs)
    (a : Option Addr) (m cap : Nat) (news : List Value) (hm : news.length = m) (hx : act.eval x = .slice a m cap) (hcap : a = none → cap = 0) (hA : CQ w Q' a news) (h1 : ∀ u ∈ news, u.oneCell' = true) (hlen : n + m ≤ 10000000) (hbase : base ≤ w.heap.size)
    (h : ∀ v' w', w'.ownsRow base 30 1 v' (n + m) (xs ++ news) → w.grownBy w' v.ownBlock → wpList Try.prog ops Q rest (act.put o.dst v') w') : wpList Try.prog ops Q (o :: rest) act w := by
  obtain ⟨i0, hi, hz0, hz1, hz2⟩ := infoEB
  cases a with
  | none =>
    obtain rfl := hcap rfl
    obtain rfl : news = [] := by
      cases news with
      | nil => rfl
      | cons u l => obtain ⟨b, o', e, _⟩ := hA 0 u rfl; cases e
    obtain rfl : m = 0 := by rw [← hm]; rfl
    exact wpList_append_own_none hgd s x 23 ho base 30 i0 1 Try.underlying23 hi v n xs hs hown hx (h v w (by simpa using hown) ⟨rfl, rfl, rfl, Nat.le_refl _, fun _ _ _ => rfl⟩)
  | some ad =>
    refine wpList_append_own_at _ hgd s x 23 ho base 30 i0 (.slice none 0 0) 1 24 Try.underlying23 hi hz0 hz1 hz2 rfl (by decide) v n xs hs hown ad m cap news hx (by omega) ?_ h1 (by unfold maxLen; omega) (by omega) hbase (fun v' w' g1 g2 _ _ => h v' w' g1 g2)
    intro j y hj
    obtain ⟨b, o', e, _, hc⟩ := hA j y hj
    obtain rfl : ad = ⟨b, o', none⟩ := by simpa using e
    rw [Addr.add_mid]; exact hc
theorem zerosVB (n : Nat) : (Builtin.zeroCells #[.slice none 0 0] n).size = n := by simp [Builtin.zeroCells]
set_option maxHeartbeats 400000 in
theorem growVB_none (w : World) : Calls Try.prog 100 #[.slice none 0 0, .int .i64 0] w fun e w' => e = .returned (.slice none 0 0) ∧ w' = w := by
  go_enter Try.func100, Try.ntmps100
  go_wp2
  go_ret
  exact ⟨rfl, rfl⟩
set_option maxHeartbeats 400000 in
theorem growVB_some (n : Nat) (hn : 0 < n) (hn2 : n ≤ 10000000) (w : World) : Calls Try.prog 100 #[.slice none 0 0, .int .i64 (n : Int)] w (POwnV 30 w []) := by
  obtain ⟨i0, hi, hz0, hz1, hz2⟩ := infoEB
  have hr := hid (fun ty => Lib.run_append_nil_zeros (P := Try.prog) w 23 3 ty 30 i0 (.slice none 0 0) .i64 .i64 Try.underlying23 Try.underlying3 hi hz0 n hn (by omega) (by omega) (by rw [hz2]; omega))
  clear hi hz0 hz1 hz2
  have hn' : (0 : Int) < (n : Int) := by omega
  go_enter Try.func100, Try.ntmps100
  go_wp2_with (first | (at_builtin; refine Lib.wpList_append_run _ rfl _ _ _ _ rfl _ _ rfl rfl _ _ (hr.out _) ?_))
  go_ret
  refine ⟨.slice (some ⟨w.heap.size, 0, none⟩) 0 (grownCap w n 0 30), rfl, ?_, (Touch.refl _ w).drew.alloc _⟩
  refine World.ownsRow_made (base := w.heap.size) w.drew _ _ (Nat.le_refl _) (grownCap_le_maxLen w n 0 30 (by unfold maxLen; omega)) ?_
  rw [Array.size_append, zerosVB, zerosVB]
  have := grownCap_ge w n 0 30
  omega
theorem growVB_v (n : Nat) (hn : n ≤ 10000000) (w : World) : Calls Try.prog 100 #[.slice none 0 0, .int .i64 (n : Int)] w (POwnV 30 w []) := by
  rcases Nat.eq_zero_or_pos n with rfl | h0
  · refine (growVB_none w).mono ?_
    rintro e w' ⟨rfl, rfl⟩
    exact ⟨_, rfl, World.ownsRow_nil _ _ _ _, Touch.refl _ _⟩
  · exact growVB_some n h0 hn w
set_option maxRecDepth 100000 in
set_option maxHeartbeats 1000000 in
theorem concatB_v (g : Nat) (L : List Vl) (w : World) (hL : L.length ≤ 1000) (hf : (flatV L).length ≤ 10000000) (hP : VParts w g L) : Calls Try.prog 94 #[.slice (some ⟨g, 0, none⟩) L.length L.length] w (POwnV 30 w (flatV L)) := by
  have HP := hid hP
  have HG := hid (growVB_v (flatV L).length hf w)
  clear hP
  go_enter Try.func94, Try.ntmps94
  go_wp2
  go_loopw [3, 11] (fun x i wr => ∃ k : Nat, k ≤ L.length ∧ x = .int .i64 ((flatV (L.take k)).length : Int) ∧ i = .int .i64 (k : Int) ∧ wr = w) (fun _ i _ => L.length - (intOf i).toNat)
  case atStart => exact ⟨0, by omega, rfl, rfl, rfl⟩
  case round =>
    obtain ⟨k, hk, rfl, rfl, hw⟩ := hrel
    obtain rfl := hw.symm
    by_cases hlt : k < L.length
    · obtain ⟨x, hx⟩ : ∃ x, L[k]? = some x := ⟨L[k], List.getElem?_eq_getElem hlt⟩
      obtain ⟨hcell, _⟩ := HP.out k x hx
      have hn := flatV_len L (k + 1)
      have HN := hid (show (flatV (L.take (k + 1))).length = (flatV (L.take k)).length + x.l.length by rw [flatV_next hx, List.length_append])
      rw [HN.out] at hn
      clear hx
      generalize (flatV (L.take k)).length = y at *
      go_wp2
      go_roundw
      case rel => exact ⟨k + 1, by omega, by rw [HN.out]; simp, by go_num, by first | rfl | trivial⟩
      case measure => simp [intOf]; omega
    · obtain rfl : k = L.length := by omega
      rw [List.take_length]
      go_wp2_with (first | (go_at_call 100; refine HG.out.mono ?_; rintro e w1 ⟨v0, rfl, h1, h2⟩; have HQ := hid (And.intro h1 h2); clear h1 h2))
      go_loopw [6, 27] (fun v i wz => ∃ k : Nat, k ≤ L.length ∧ i = .int .i64 (k : Int) ∧ Hid (wz.ownsRow w.heap.size 30 1 v (flatV (L.take k)).length (flatV (L.take k)) ∧ Adds w wz)) (fun _ i _ => L.length - (intOf i).toNat)
      case atStart => exact ⟨0, by omega, rfl, HQ.out.1, HQ.out.2⟩
      case round =>
        obtain ⟨k, hk, rfl, HI⟩ := hrel
        by_cases hlt : k < L.length
        · obtain ⟨x, hx⟩ : ∃ x, L[k]? = some x := ⟨L[k], List.getElem?_eq_getElem hlt⟩
          obtain ⟨hcell, hG⟩ := (HP.out.adds HI.out.2) k x hx
          have HN := hid (flatV_next hx)
          have hn := flatV_len L (k + 1)
          rw [HN.out, List.length_append] at hn
          have HA := hid (And.intro hG hn)
          clear hx hG hn
          go_wp2_with (first
            | (at_builtin; refine append_vB rfl _ _ rfl w.heap.size _ (flatV (L.take k)).length (flatV (L.take k)) rfl HI.out.1 x.a x.l.length x.cap x.l rfl rfl HA.out.1.2.1 HA.out.1.1 HA.out.1.2.2 (by have := HA.out.2; omega) HI.out.2.size ?_; intro v1 w1 hown1 hgrow1; have HQ1 := hid (And.intro hown1 hgrow1); clear hown1 hgrow1))
          go_roundw
          case rel =>
            refine ⟨k + 1, by omega, by go_num, ?_, ?_⟩
            · have h := HQ1.out.1
              rw [HN.out, List.length_append]
              exact h
            · exact Touch.grown HI.out.2 HQ1.out.2 (fun j hj hlt => by have := (HI.out.1.lt j hj).1; omega)
          case measure => simp [intOf]; omega
        · obtain rfl : k = L.length := by omega
          go_wp2
          go_ret
          have h := HI.out.1
          rw [List.take_length] at h
          exact ⟨_, rfl, h, HI.out.2⟩
set_option maxRecDepth 100000 in
theorem run_preVB (a : Option Addr) (len cap n : Nat) (hn : n ≤ cap) (w : World) : (Instr.sliceAt 23 (.slice a len cap) none (some (.int .i64 (n : Int))) none).run Try.prog w = .ok (.slice a n cap) w := by
  have hsz : (sizeOf 30).run Try.prog w = .ok 1 w := by kernel_rfl
  rw [run_sliceAt_slice w 23 _ _ _ _ Try.underlying23, run_slice_h w 23 a len cap Try.underlying23 .i64 n (by omega) (by omega)]
  have he : Try.prog.elem 23 = 30 := by kernel_rfl
  rw [he, hsz]
  simp only [Result.andThen, sliced, Int.toNat_natCast, Nat.zero_mul, Nat.sub_zero]
  congr 2
  split
  · rfl
  · cases a <;> rfl
set_option maxRecDepth 100000 in
theorem run_sufVB (a : Option Addr) (len cap n : Nat) (hn : n ≤ len) (w : World) : (Instr.sliceAt 23 (.slice a len cap) (some (.int .i64 (n : Int))) none none).run Try.prog w = .ok (.slice (sufA a cap n) (len - n) (cap - n)) w := by
  have hsz : (sizeOf 30).run Try.prog w = .ok 1 w := by kernel_rfl
  rw [run_sliceAt_slice w 23 _ _ _ _ Try.underlying23, run_slice_l w 23 a len cap Try.underlying23 .i64 n (by omega) (by omega)]
  have he : Try.prog.elem 23 = 30 := by kernel_rfl
  rw [he, hsz]
  simp only [Result.andThen, sliced, Int.toNat_natCast, Nat.mul_one]
  rfl
set_option maxRecDepth 100000 in
set_option maxHeartbeats 2000000 in
theorem spliceB_any (a b : Option Addr) (xs ys : List Value) (n cap m bcap i j : Nat) (w : World) {Q Q' : Nat → Prop} (hn : xs.length = n) (hm : ys.length = m) (hc : n ≤ cap) (hi : i ≤ n) (hj : j ≤ n) (hn9 : n ≤ 1000) (hm9 : m ≤ 1000) (hx : CQ w Q a xs) (hy : CQ w Q' b ys) (ha : a = none → cap = 0) (hb : b = none → bcap = 0) (h1 : ∀ u ∈ xs, u.oneCell' = true) (h2 : ∀ u ∈ ys, u.oneCell' = true) :
    Calls Try.prog 83 #[.slice a n cap, .int .i64 (i : Int), .int .i64 (j : Int), .slice b m bcap] w (POwnV 30 w (xs.take i ++ (ys ++ xs.drop j))) := by
  have HC := hid (fun (W : World) (hA : Adds w W) (g : Nat) (c0 : W.cell? ⟨g, 0, none⟩ = some (.slice a i cap)) (c1 : W.cell? ⟨g, 1, none⟩ = some (.slice b m bcap)) (c2 : W.cell? ⟨g, 2, none⟩ = some (.slice (sufA a cap j) (n - j) (cap - j))) =>
    show Calls Try.prog 94 #[.slice (some ⟨g, 0, none⟩) 3 3] W (POwnV 30 W (xs.take i ++ (ys ++ xs.drop j))) by
      have q := concatB_v g [⟨a, cap, xs.take i⟩, ⟨b, bcap, ys⟩, ⟨sufA a cap j, cap - j, xs.drop j⟩] W (by simp) (by simp [flatV]; omega) (three_parts hA hn hm hc hi hx hy ha hb h1 h2 c0 c1 c2)
      rw [show flatV [⟨a, cap, xs.take i⟩, ⟨b, bcap, ys⟩, ⟨sufA a cap j, cap - j, xs.drop j⟩] = xs.take i ++ (ys ++ xs.drop j) by simp [flatV]] at q
      exact q)
  have hs1 := run_preVB a n cap i (by omega)
  have hs2 := run_sufVB a n cap j hj
  generalize xs.take i ++ (ys ++ xs.drop j) = out at HC ⊢
  clear hx hy ha hb h1 h2 hn hm
  go_enter Try.func83, Try.ntmps83
  go_upto_region 1 with fail
  go_region_with (first
    | (go_at_call 94; refine (HC.out _ ((Touch.refl _ w).drew.alloc _) _ (cellOf (heap_alloc_new w.drew _) 0) (cellOf (heap_alloc_new w.drew _) 1) (cellOf (heap_alloc_new w.drew _) 2)).mono ?_; rintro e w1 ⟨v1, rfl, h1⟩; have H1 := hid h1; clear h1)
    | (go_at_call 94; refine (HC.out _ ((Touch.refl _ w).alloc _).drew _ (cellOf (w := (w.alloc _).drew) (heap_alloc_new w _) 0) (cellOf (w := (w.alloc _).drew) (heap_alloc_new w _) 1) (cellOf (w := (w.alloc _).drew) (heap_alloc_new w _) 2)).mono ?_; rintro e w1 ⟨v1, rfl, h1⟩; have H1 := hid h1; clear h1))
  go_wp2_with fail
  go_ret
  exact POwnV.later H1.out (by first | exact ((Touch.refl _ w).alloc _).drew | exact (Touch.refl _ w).drew.alloc _)
end Go.Proofs.Ytplppnngmlljnaa

/- Lists of numbers, one behind the other: Grow, Concat, splice. -/
namespace Go.Proofs.Ytplppnngmlljnaa
open Go.RowKit

theorem infoEI : ∃ i, Try.prog.info? 3 = some i ∧ i.zero = some (.int .i64 0) ∧ i.size = 1 ∧ i.bytes = 8 := by
  have h : (Try.prog.info? 3).map (fun i => (i.zero, i.size, i.bytes)) = some (some (.int .i64 0), 1, 8) := by kernel_rfl
  cases hq : Try.prog.info? 3 with
  | none => rw [hq] at h; cases h
  | some i =>
    rw [hq] at h
    simp only [Option.map_some, Option.some.injEq, Prod.mk.injEq] at h
    exact ⟨i, rfl, h.1, h.2.1, h.2.2⟩
theorem append_vI {w : World} {ops : Array Oper} {rest : List Oper} {o : Oper} {act : Act} {Q : Exit → Act → World → Prop} {Q' : Nat → Prop} (hgd : o.guard = none) (s x : Operand)
    (ho : o.op = .call { callee := .builtin .append, args := #[s, x], argTypes := #[24, 24] }) (base : Nat) (v : Value) (n : Nat) (xs : List Value) (hs : act.eval s = v) (hown : w.ownsRow base 3 1 v n xs)
    (a : Option Addr) (m cap : Nat) (news : List Value) (hm : news.length = m) (hx : act.eval x = .slice a m cap) (hcap : a = none → cap = 0) (hA : CQ w Q' a news) (h1 : ∀ u ∈ news, u.oneCell' = true) (hlen : n + m ≤ 10000000) (hbase : base ≤ w.heap.size)
    (h : ∀ v' w', w'.ownsRow base 3 1 v' (n + m) (xs ++ news) → w.grownBy w' v.ownBlock → wpList Try.prog ops Q rest (act.put o.dst v') w') : wpList Try.prog ops Q (o :: rest) act w := by
  obtain ⟨i0, hi, hz0, hz1, hz2⟩ := infoEI
  cases a with
  | none =>
    obtain rfl := hcap rfl
    obtain rfl : news = [] := by
      cases news with
      | nil => rfl
      | cons u l => obtain ⟨b, o', e, _⟩ := hA 0 u rfl; cases e
    obtain rfl : m = 0 := by rw [← hm]; rfl
    exact wpList_append_own_none hgd s x 24 ho base 3 i0 1 Try.underlying24 hi v n xs hs hown hx (h v w (by simpa using hown) ⟨rfl, rfl, rfl, Nat.le_refl _, fun _ _ _ => rfl⟩)
  | some ad =>
    refine wpList_append_own_at _ hgd s x 24 ho base 3 i0 (.int .i64 0) 1 8 Try.underlying24 hi hz0 hz1 hz2 rfl (by decide) v n xs hs hown ad m cap news hx (by omega) ?_ h1 (by unfold maxLen; omega) (by omega) hbase (fun v' w' g1 g2 _ _ => h v' w' g1 g2)
    intro j y hj
    obtain ⟨b, o', e, _, hc⟩ := hA j y hj
    obtain rfl : ad = ⟨b, o', none⟩ := by simpa using e
    rw [Addr.add_mid]; exact hc
theorem zerosVI (n : Nat) : (Builtin.zeroCells #[.int .i64 0] n).size = n := by simp [Builtin.zeroCells]
set_option maxHeartbeats 400000 in
theorem growVI_none (w : World) : Calls Try.prog 99 #[.slice none 0 0, .int .i64 0] w fun e w' => e = .returned (.slice none 0 0) ∧ w' = w := by
  go_enter Try.func99, Try.ntmps99
  go_wp2
  go_ret
  exact ⟨rfl, rfl⟩
set_option maxHeartbeats 400000 in
theorem growVI_some (n : Nat) (hn : 0 < n) (hn2 : n ≤ 10000000) (w : World) : Calls Try.prog 99 #[.slice none 0 0, .int .i64 (n : Int)] w (POwnV 3 w []) := by
  obtain ⟨i0, hi, hz0, hz1, hz2⟩ := infoEI
  have hr := hid (fun ty => Lib.run_append_nil_zeros (P := Try.prog) w 24 3 ty 3 i0 (.int .i64 0) .i64 .i64 Try.underlying24 Try.underlying3 hi hz0 n hn (by omega) (by omega) (by rw [hz2]; omega))
  clear hi hz0 hz1 hz2
  have hn' : (0 : Int) < (n : Int) := by omega
  go_enter Try.func99, Try.ntmps99
  go_wp2_with (first | (at_builtin; refine Lib.wpList_append_run _ rfl _ _ _ _ rfl _ _ rfl rfl _ _ (hr.out _) ?_))
  go_ret
  refine ⟨.slice (some ⟨w.heap.size, 0, none⟩) 0 (grownCap w n 0 3), rfl, ?_, (Touch.refl _ w).drew.alloc _⟩
  refine World.ownsRow_made (base := w.heap.size) w.drew _ _ (Nat.le_refl _) (grownCap_le_maxLen w n 0 3 (by unfold maxLen; omega)) ?_
  rw [Array.size_append, zerosVI, zerosVI]
  have := grownCap_ge w n 0 3
  omega
theorem growVI_v (n : Nat) (hn : n ≤ 10000000) (w : World) : Calls Try.prog 99 #[.slice none 0 0, .int .i64 (n : Int)] w (POwnV 3 w []) := by
  rcases Nat.eq_zero_or_pos n with rfl | h0
  · refine (growVI_none w).mono ?_
    rintro e w' ⟨rfl, rfl⟩
    exact ⟨_, rfl, World.ownsRow_nil _ _ _ _, Touch.refl _ _⟩
  · exact growVI_some n h0 hn w
set_option maxRecDepth 100000 in
set_option maxHeartbeats 1000000 in
theorem concatI_v (g : Nat) (L : List Vl) (w : World) (hL : L.length ≤ 1000) (hf : (flatV L).length ≤ 10000000) (hP : VParts w g L) : Calls Try.prog 93 #[.slice (some ⟨g, 0, none⟩) L.length L.length] w (POwnV 3 w (flatV L)) := by
  have HP := hid hP
  have HG := hid (growVI_v (flatV L).length hf w)
  clear hP
  go_enter Try.func93, Try.ntmps93
  go_wp2
  go_loopw [3, 11] (fun x i wr => ∃ k : Nat, k ≤ L.length ∧ x = .int .i64 ((flatV (L.take k)).length : Int) ∧ i = .int .i64 (k : Int) ∧ wr = w) (fun _ i _ => L.length - (intOf i).toNat)
  case atStart => exact ⟨0, by omega, rfl, rfl, rfl⟩
  case round =>
    obtain ⟨k, hk, rfl, rfl, hw⟩ := hrel
    obtain rfl := hw.symm
    by_cases hlt : k < L.length
    · obtain ⟨x, hx⟩ : ∃ x, L[k]? = some x := ⟨L[k], List.getElem?_eq_getElem hlt⟩
      obtain ⟨hcell, _⟩ := HP.out k x hx
      have hn := flatV_len L (k + 1)
      have HN := hid (show (flatV (L.take (k + 1))).length = (flatV (L.take k)).length + x.l.length by rw [flatV_next hx, List.length_append])
      rw [HN.out] at hn
      clear hx
      generalize (flatV (L.take k)).length = y at *
      go_wp2
      go_roundw
      case rel => exact ⟨k + 1, by omega, by rw [HN.out]; simp, by go_num, by first | rfl | trivial⟩
      case measure => simp [intOf]; omega
    · obtain rfl : k = L.length := by omega
      rw [List.take_length]
      go_wp2_with (first | (go_at_call 99; refine HG.out.mono ?_; rintro e w1 ⟨v0, rfl, h1, h2⟩; have HQ := hid (And.intro h1 h2); clear h1 h2))
      go_loopw [6, 27] (fun v i wz => ∃ k : Nat, k ≤ L.length ∧ i = .int .i64 (k : Int) ∧ Hid (wz.ownsRow w.heap.size 3 1 v (flatV (L.take k)).length (flatV (L.take k)) ∧ Adds w wz)) (fun _ i _ => L.length - (intOf i).toNat)
      case atStart => exact ⟨0, by omega, rfl, HQ.out.1, HQ.out.2⟩
      case round =>
        obtain ⟨k, hk, rfl, HI⟩ := hrel
        by_cases hlt : k < L.length
        · obtain ⟨x, hx⟩ : ∃ x, L[k]? = some x := ⟨L[k], List.getElem?_eq_getElem hlt⟩
          obtain ⟨hcell, hG⟩ := (HP.out.adds HI.out.2) k x hx
          have HN := hid (flatV_next hx)
          have hn := flatV_len L (k + 1)
          rw [HN.out, List.length_append] at hn
          have HA := hid (And.intro hG hn)
          clear hx hG hn
          go_wp2_with (first
            | (at_builtin; refine append_vI rfl _ _ rfl w.heap.size _ (flatV (L.take k)).length (flatV (L.take k)) rfl HI.out.1 x.a x.l.length x.cap x.l rfl rfl HA.out.1.2.1 HA.out.1.1 HA.out.1.2.2 (by have := HA.out.2; omega) HI.out.2.size ?_; intro v1 w1 hown1 hgrow1; have HQ1 := hid (And.intro hown1 hgrow1); clear hown1 hgrow1))
          go_roundw
          case rel =>
            refine ⟨k + 1, by omega, by go_num, ?_, ?_⟩
            · have h := HQ1.out.1
              rw [HN.out, List.length_append]
              exact h
            · exact Touch.grown HI.out.2 HQ1.out.2 (fun j hj hlt => by have := (HI.out.1.lt j hj).1; omega)
          case measure => simp [intOf]; omega
        · obtain rfl : k = L.length := by omega
          go_wp2
          go_ret
          have h := HI.out.1
          rw [List.take_length] at h
          exact ⟨_, rfl, h, HI.out.2⟩
set_option maxRecDepth 100000 in
theorem run_preVI (a : Option Addr) (len cap n : Nat) (hn : n ≤ cap) (w : World) : (Instr.sliceAt 24 (.slice a len cap) none (some (.int .i64 (n : Int))) none).run Try.prog w = .ok (.slice a n cap) w := by
  have hsz : (sizeOf 3).run Try.prog w = .ok 1 w := by kernel_rfl
  rw [run_sliceAt_slice w 24 _ _ _ _ Try.underlying24, run_slice_h w 24 a len cap Try.underlying24 .i64 n (by omega) (by omega)]
  have he : Try.prog.elem 24 = 3 := by kernel_rfl
  rw [he, hsz]
  simp only [Result.andThen, sliced, Int.toNat_natCast, Nat.zero_mul, Nat.sub_zero]
  congr 2
  split
  · rfl
  · cases a <;> rfl
set_option maxRecDepth 100000 in
theorem run_sufVI (a : Option Addr) (len cap n : Nat) (hn : n ≤ len) (w : World) : (Instr.sliceAt 24 (.slice a len cap) (some (.int .i64 (n : Int))) none none).run Try.prog w = .ok (.slice (sufA a cap n) (len - n) (cap - n)) w := by
  have hsz : (sizeOf 3).run Try.prog w = .ok 1 w := by kernel_rfl
  rw [run_sliceAt_slice w 24 _ _ _ _ Try.underlying24, run_slice_l w 24 a len cap Try.underlying24 .i64 n (by omega) (by omega)]
  have he : Try.prog.elem 24 = 3 := by kernel_rfl
  rw [he, hsz]
  simp only [Result.andThen, sliced, Int.toNat_natCast, Nat.mul_one]
  rfl
set_option maxRecDepth 100000 in
set_option maxHeartbeats 2000000 in
theorem spliceI_any (a b : Option Addr) (xs ys : List Value) (n cap m bcap i j : Nat) (w : World) {Q Q' : Nat → Prop} (hn : xs.length = n) (hm : ys.length = m) (hc : n ≤ cap) (hi : i ≤ n) (hj : j ≤ n) (hn9 : n ≤ 1000) (hm9 : m ≤ 1000) (hx : CQ w Q a xs) (hy : CQ w Q' b ys) (ha : a = none → cap = 0) (hb : b = none → bcap = 0) (h1 : ∀ u ∈ xs, u.oneCell' = true) (h2 : ∀ u ∈ ys, u.oneCell' = true) :
    Calls Try.prog 82 #[.slice a n cap, .int .i64 (i : Int), .int .i64 (j : Int), .slice b m bcap] w (POwnV 3 w (xs.take i ++ (ys ++ xs.drop j))) := by
  have HC := hid (fun (W : World) (hA : Adds w W) (g : Nat) (c0 : W.cell? ⟨g, 0, none⟩ = some (.slice a i cap)) (c1 : W.cell? ⟨g, 1, none⟩ = some (.slice b m bcap)) (c2 : W.cell? ⟨g, 2, none⟩ = some (.slice (sufA a cap j) (n - j) (cap - j))) =>
    show Calls Try.prog 93 #[.slice (some ⟨g, 0, none⟩) 3 3] W (POwnV 3 W (xs.take i ++ (ys ++ xs.drop j))) by
      have q := concatI_v g [⟨a, cap, xs.take i⟩, ⟨b, bcap, ys⟩, ⟨sufA a cap j, cap - j, xs.drop j⟩] W (by simp) (by simp [flatV]; omega) (three_parts hA hn hm hc hi hx hy ha hb h1 h2 c0 c1 c2)
      rw [show flatV [⟨a, cap, xs.take i⟩, ⟨b, bcap, ys⟩, ⟨sufA a cap j, cap - j, xs.drop j⟩] = xs.take i ++ (ys ++ xs.drop j) by simp [flatV]] at q
      exact q)
  have hs1 := run_preVI a n cap i (by omega)
  have hs2 := run_sufVI a n cap j hj
  generalize xs.take i ++ (ys ++ xs.drop j) = out at HC ⊢
  clear hx hy ha hb h1 h2 hn hm
  go_enter Try.func82, Try.ntmps82
  go_upto_region 1 with fail
  go_region_with (first
    | (go_at_call 93; refine (HC.out _ ((Touch.refl _ w).drew.alloc _) _ (cellOf (heap_alloc_new w.drew _) 0) (cellOf (heap_alloc_new w.drew _) 1) (cellOf (heap_alloc_new w.drew _) 2)).mono ?_; rintro e w1 ⟨v1, rfl, h1⟩; have H1 := hid h1; clear h1)
    | (go_at_call 93; refine (HC.out _ ((Touch.refl _ w).alloc _).drew _ (cellOf (w := (w.alloc _).drew) (heap_alloc_new w _) 0) (cellOf (w := (w.alloc _).drew) (heap_alloc_new w _) 1) (cellOf (w := (w.alloc _).drew) (heap_alloc_new w _) 2)).mono ?_; rintro e w1 ⟨v1, rfl, h1⟩; have H1 := hid h1; clear h1))
  go_wp2_with fail
  go_ret
  exact POwnV.later H1.out (by first | exact ((Touch.refl _ w).alloc _).drew | exact (Touch.refl _ w).drew.alloc _)
end Go.Proofs.Ytplppnngmlljnaa
