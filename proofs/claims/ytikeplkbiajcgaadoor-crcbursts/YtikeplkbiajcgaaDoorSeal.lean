/- Bytes put behind bytes; Seal and the reference's. -/
import Derived.Test.YtikeplkbiajcgaaDoorJoin
import Derived.Laws.AppendOwnNone
import Derived.Laws.MakeOwn
namespace Go.Proofs.YtikeplkbiajcgaaDoor
open Go.RowKit

theorem info5all : ∃ i, Tryd.prog.info? 5 = some i ∧ i.zero = some (.int .u8 0) ∧ i.size = 1 ∧ i.bytes = 1 := by
  have h : (Tryd.prog.info? 5).map (fun i => (i.zero, i.size, i.bytes)) = some (some (.int .u8 0), 1, 1) := by kernel_rfl
  cases hq : Tryd.prog.info? 5 with
  | none => rw [hq] at h; cases h
  | some i =>
    rw [hq] at h
    simp only [Option.map_some, Option.some.injEq, Prod.mk.injEq] at h
    exact ⟨i, rfl, h.1, h.2.1, h.2.2⟩

/-- A row of bytes of one's own. -/
abbrev Own (w : World) (base : Nat) (v : Value) (bs : List UInt8) : Prop := w.ownsRow base 5 1 v bs.length (S bs)

theorem At.own {w : World} {base g n cap : Nat} {bs : List UInt8} (h : w.ownsRow base 5 1 (.slice (some ⟨g, 0, none⟩) n cap) n (S bs)) : At w (some ⟨g, 0, none⟩) bs := by
  intro j c hj
  rcases h.2 with ⟨e, _⟩ | ⟨g', cap', cur, e, _, hg, _, _, _, ht⟩
  · cases e
  · obtain ⟨rfl, _⟩ : g = g' ∧ cap = cap' := by simpa using e
    refine ⟨g, 0, rfl, ?_⟩
    rw [cell_of_row w g (0 + j) cur 5 _ hg, Nat.zero_add, ← Array.getElem?_toList]
    have h2 : (S bs)[j]? = some (.int .u8 (c.toNat : Int)) := by rw [S_get, hj]; rfl
    rw [← ht, List.getElem?_take] at h2
    split at h2
    · exact h2
    · cases h2
/-- A row that has bytes lies somewhere. -/
theorem Own.some {w : World} {base n : Nat} {v : Value} {xs : List Value} (h : w.ownsRow base 5 1 v n xs) (hn : 0 < n) : ∃ g cap, v = .slice (some ⟨g, 0, none⟩) n cap ∧ base ≤ g ∧ n ≤ cap := by
  rcases h.2 with ⟨_, e⟩ | ⟨g, cap, cur, rfl, hb, _, hc, _⟩
  · omega
  · exact ⟨g, cap, rfl, hb, hc⟩

/-- Bytes, wherever they lie, put behind bytes of one's own. -/
theorem append_bytes {w : World} {ops : Array Oper} {rest : List Oper} {o : Oper} {act : Act} {Q : Exit → Act → World → Prop} (hgd : o.guard = none) (s x : Operand)
    (ho : o.op = .call { callee := .builtin .append, args := #[s, x], argTypes := #[22, 22] }) (base : Nat) (v : Value) (n : Nat) (xs : List Value) (hs : act.eval s = v) (hown : w.ownsRow base 5 1 v n xs)
    (a : Option Addr) (bs : List UInt8) (cap : Nat) (hx : act.eval x = .slice a bs.length cap) (hcap : a = none → cap = 0) (hA : At w a bs) (hlen : n + bs.length ≤ 140737488355328) (hbase : base ≤ w.heap.size)
    (h : ∀ v' w', w'.ownsRow base 5 1 v' (n + bs.length) (xs ++ S bs) → w.grownBy w' v.ownBlock → (v = .slice none 0 0 ∨ v' ≠ .slice none 0 0) → wpList Tryd.prog ops Q rest (act.put o.dst v') w') : wpList Tryd.prog ops Q (o :: rest) act w := by
  obtain ⟨i0, hi, hz0, hz1, hz2⟩ := info5all
  cases a with
  | none =>
    obtain rfl := hcap rfl
    obtain rfl : bs = [] := by
      cases bs with
      | nil => rfl
      | cons c bs => obtain ⟨b, o', e, _⟩ := hA 0 c rfl; cases e
    refine wpList_append_own_none hgd s x 22 ho base 5 i0 1 Tryd.underlying22 hi v n xs hs hown hx (h v w (by simpa [S] using hown) ⟨rfl, rfl, rfl, Nat.le_refl _, fun _ _ _ => rfl⟩ ?_)
    by_cases hv : v = .slice none 0 0
    · exact .inl hv
    · exact .inr hv
  | some ad =>
    refine wpList_append_own _ hgd s x 22 ho base 5 i0 (.int .u8 0) 1 1 Tryd.underlying22 hi hz0 hz1 hz2 rfl (by decide) v n xs hs hown ad bs.length cap (S bs) hx (by rw [length_S, Nat.mul_one]) ?_ (one_S bs) (by unfold maxLen; omega) (by omega) hbase (fun v' w' h1 h2 h3 => h v' w' h1 h2 ?_)
    · intro j u hu
      rw [S_get] at hu
      cases hj : bs[j]? with
      | none => rw [hj] at hu; cases hu
      | some c =>
        rw [hj] at hu
        obtain ⟨b, o', e, hc⟩ := hA j c hj
        obtain rfl : ad = ⟨b, o', none⟩ := by simpa using e
        rw [Addr.add_mid, hc]
        exact hu
    · by_cases hv : v = .slice none 0 0
      · exact .inl hv
      · exact .inr (fun e => hv (h3.1 e).1)

theorem own_none (v : Value) : v.ownBlock = none ∨ v.ownBlock ≠ none := by cases v.ownBlock <;> simp
/-- A sum's four bytes. -/
def le (s : M.V) : List UInt8 := [UInt8.ofNat s.toNat, UInt8.ofNat (s >>> 8).toNat, UInt8.ofNat (s >>> 16).toNat, UInt8.ofNat (s >>> 24).toNat]
theorem len_le (s : M.V) : (le s).length = 4 := rfl
theorem wrap8 (x : M.V) : IntKind.u8.wrap (N x) = ((UInt8.ofNat x.toNat).toNat : Int) := by
  simp only [IntKind.wrap, IntKind.bits, IntKind.signed, N]
  simp
theorem wrap_byte (c : UInt8) : IntKind.u8.wrap (c.toNat : Int) = (c.toNat : Int) := by
  have := c.toNat_lt
  simp only [IntKind.wrap, IntKind.bits, IntKind.signed]
  simp
  omega
def sealed (bs : List UInt8) : List UInt8 := bs ++ le (M.sum bs)
theorem len_sealed (bs : List UInt8) : (sealed bs).length = bs.length + 4 := by simp [sealed, len_le]

theorem At.four (w : World) (c0 c1 c2 c3 : UInt8) : At (w.alloc (.cells #[.int .u8 (c0.toNat : Int), .int .u8 (c1.toNat : Int), .int .u8 (c2.toNat : Int), .int .u8 (c3.toNat : Int)] 5)) (some ⟨w.heap.size, 0, none⟩) [c0, c1, c2, c3] := by
  intro j c hj
  refine ⟨_, _, rfl, ?_⟩
  rw [cell_of_row _ _ _ _ _ _ (heap_alloc_new w _)]
  match j, hj with
  | 0, hj => obtain rfl : _ = c := Option.some.inj hj; rfl
  | 1, hj => obtain rfl : _ = c := Option.some.inj hj; rfl
  | 2, hj => obtain rfl : _ = c := Option.some.inj hj; rfl
  | 3, hj => obtain rfl : _ = c := Option.some.inj hj; rfl
  | j + 4, hj => simp at hj
theorem four (s : M.V) : ∃ c0 c1 c2 c3 : UInt8, le s = [c0, c1, c2, c3] ∧ (IntKind.u8.wrap (N s) = (c0.toNat : Int) ∧ IntKind.u8.wrap (N (s >>> 8)) = (c1.toNat : Int) ∧ IntKind.u8.wrap (N (s >>> 16)) = (c2.toNat : Int) ∧ IntKind.u8.wrap (N (s >>> 24)) = (c3.toNat : Int)) ∧
    N s % (256 : Int) = (c0.toNat : Int) ∧ N (s >>> 8) % (256 : Int) = (c1.toNat : Int) ∧ N (s >>> 16) % (256 : Int) = (c2.toNat : Int) ∧ N (s >>> 24) % (256 : Int) = (c3.toNat : Int) :=
  ⟨_, _, _, _, rfl, ⟨wrap8 _, wrap8 _, wrap8 _, wrap8 _⟩, by rw [← wrap8]; rfl, by rw [← wrap8]; rfl, by rw [← wrap8]; rfl, by rw [← wrap8]; rfl⟩

/-- What Seal tells. -/
def PSeal (w : World) (bs : List UInt8) (e : Ending) (w' : World) : Prop := ∃ g cap, e = .returned (.slice (some ⟨g, 0, none⟩) (bs.length + 4) cap) ∧ w.heap.size ≤ g ∧ w'.ownsRow w.heap.size 5 1 (.slice (some ⟨g, 0, none⟩) (bs.length + 4) cap) (bs.length + 4) (S (sealed bs)) ∧ Adds w w'

theorem make_room (n : Nat) (hn : n ≤ 70368744177664) (w : World) : (Instr.makeSlice 22 (.int .i64 0) (.int .i64 ((n : Int) + 4))).run Tryd.prog w = .ok (.slice (some ⟨w.heap.size, 0, none⟩) 0 (n + 4)) (w.alloc (.cells (madeCells #[.int .u8 0] (n + 4)) 5)) := by
  obtain ⟨i0, hi, hz0, hz1, hz2⟩ := info5all
  have := run_make (P := Tryd.prog) w 22 5 i0 (.int .u8 0) Tryd.underlying22 hi hz0 .i64 .i64 0 ((n : Int) + 4) (by decide) (by omega) (by rw [hz2]; omega) (by omega)
  rw [this, hz1]
  have e : ((n : Int) + 4).toNat = n + 4 := by omega
  rw [e, Nat.mul_one]
  rfl

set_option maxRecDepth 100000 in
set_option maxHeartbeats 1000000 in
theorem seal_any (a : Option Addr) (bs : List UInt8) (cap : Nat) (w : World) (hlen : bs.length ≤ 1000000) (hcap : a = none → cap = 0) (hT : Tab w) (hA : At w a bs) : Calls Tryd.prog 16 #[.slice a bs.length cap] w (PSeal w bs) := by
  have hmk := make_room bs.length (by omega)
  have HC := hid hcap
  have HA1 := hid (hA.adds ((Touch.refl _ w).alloc (.cells (madeCells #[.int .u8 0] (bs.length + 4)) 5)))
  have HS := hid (fun w1 (h : Adds w w1) => sum_any a bs cap w1 (by omega) (hT.adds h) (hA.adds h))
  have HO := hid (World.ownsRow_made (base := w.heap.size) (e := 5) (size := 1) w (madeCells #[.int .u8 0] (bs.length + 4)) (bs.length + 4) (Nat.le_refl _) (by unfold maxLen; omega) (by rw [size_madeCells, Nat.mul_one]))
  obtain ⟨c0, c1, c2, c3, hle, ⟨b0, b1, b2, b3⟩, d0, d1, d2, d3⟩ := four (M.sum bs)
  have s1 := N_shr8 (M.sum bs)
  have s2 := N_shr16 (M.sum bs)
  have s3 := N_shr24 (M.sum bs)
  have HL := hid hlen
  have HLE := hid hle
  clear hcap hT hA hle
  go_enter Tryd.func16, Tryd.ntmps16
  go_wp2_with (first
    | (at_builtin; refine append_bytes rfl _ _ rfl w.heap.size (.slice (some ⟨w.heap.size, 0, none⟩) 0 (bs.length + 4)) 0 [] rfl HO.out a bs cap rfl HC.out HA1.out (by have := HL.out; omega) (by simp) ?_; intro v1 w1 hown1 hgrow1 hne1; clear hmk; have hA1 : Adds w w1 := Touch.grown ((Touch.refl _ w).alloc _) hgrow1 (fun k hk hlt => by simp [Value.ownBlock] at hk; omega); have HO1 := hid (And.intro hown1 hne1); have HGZ := hid hgrow1; clear hown1 hgrow1 hne1)
    | (at_builtin; refine append_bytes rfl _ _ rfl w.heap.size v1 (0 + bs.length) ([] ++ S bs) rfl (HO1.out.1.kept (World.grownBy_alloc w1 _ none) (own_none v1)) (some ⟨w1.heap.size, 0, none⟩) [c0, c1, c2, c3] 4 rfl (fun e => by cases e) (At.four w1 c0 c1 c2 c3) (by have := HL.out; simp; omega) (by have := hA1.size; simp; omega) ?_; intro v2 w2 hown2 hgrow2 _)
    | (go_at_call 9; refine (HS.out w1 hA1).mono ?_; rintro e _ ⟨rfl, hw⟩; rw [hw]; clear hw))
  go_ret
  obtain ⟨g, cap2, rfl, hg, _⟩ := Own.some hown2 (by simp)
  have hS : S (sealed bs) = [] ++ S bs ++ S [c0, c1, c2, c3] := by simp [sealed, S, HLE.out]
  have hn : bs.length + 4 = 0 + bs.length + [c0, c1, c2, c3].length := by simp
  refine ⟨g, cap2, by rw [hn]; rfl, hg, by rw [hn, hS]; exact hown2, ?_⟩
  exact Touch.grown (hA1.alloc _) hgrow2 (fun k hk hlt => by have := (HO1.out.1.lt k hk).1; omega)

set_option maxRecDepth 100000 in
set_option maxHeartbeats 1000000 in
theorem rseal_any (a : Option Addr) (bs : List UInt8) (cap : Nat) (w : World) (hlen : bs.length ≤ 1000000) (hcap : a = none → cap = 0) (hA : At w a bs) : Calls Tryd.prog 19 #[.slice a bs.length cap] w (PSeal w bs) := by
  have HC := hid hcap
  have HA1 := hid (hA.adds ((Touch.refl _ w).alloc (.cells #[] 5)))
  have HS := hid (rsum_any a bs cap w (by omega) hA)
  have HO := hid (World.ownsRow_lit (base := w.heap.size) (e := 5) (size := 1) w #[] 0 (Nat.le_refl _) (by decide) rfl)
  obtain ⟨c0, c1, c2, c3, hle, ⟨b0, b1, b2, b3⟩, d0, d1, d2, d3⟩ := four (M.sum bs)
  have u0 : IntKind.u8.wrap (c0.toNat : Int) = (c0.toNat : Int) := wrap_byte c0
  have u1 : IntKind.u8.wrap (c1.toNat : Int) = (c1.toNat : Int) := wrap_byte c1
  have u2 : IntKind.u8.wrap (c2.toNat : Int) = (c2.toNat : Int) := wrap_byte c2
  have t0 : (N (M.sum bs)).tmod 256 = (c0.toNat : Int) := by rw [Int.tmod_eq_emod_of_nonneg (N_nonneg _)]; exact d0
  have t1 : (N (M.sum bs >>> 8)).tmod 256 = (c1.toNat : Int) := by rw [Int.tmod_eq_emod_of_nonneg (N_nonneg _)]; exact d1
  have t2 : (N (M.sum bs >>> 16)).tmod 256 = (c2.toNat : Int) := by rw [Int.tmod_eq_emod_of_nonneg (N_nonneg _)]; exact d2
  have s1 := N_shr8 (M.sum bs)
  have s2 := N_shr16 (M.sum bs)
  have s3 := N_shr24 (M.sum bs)
  have q1 : (N (M.sum bs)).tdiv 256 = N (M.sum bs >>> 8) := by rw [Int.tdiv_eq_ediv_of_nonneg (N_nonneg _)]; exact s1
  have q2 : (N (M.sum bs)).tdiv 65536 = N (M.sum bs >>> 16) := by rw [Int.tdiv_eq_ediv_of_nonneg (N_nonneg _)]; exact s2
  have q3 : (N (M.sum bs)).tdiv 16777216 = N (M.sum bs >>> 24) := by rw [Int.tdiv_eq_ediv_of_nonneg (N_nonneg _)]; exact s3
  have HL := hid hlen
  have HLE := hid hle
  clear hcap hA hle
  go_enter Tryd.func19, Tryd.ntmps19
  go_wp2_with (first
    | (at_builtin; refine append_bytes rfl _ _ rfl w.heap.size (.slice (some ⟨w.heap.size, 0, none⟩) 0 0) 0 [] rfl HO.out a bs cap rfl HC.out HA1.out (by have := HL.out; omega) (by simp) ?_; intro v1 w1 hown1 hgrow1 hne1; have hA1 : Adds w w1 := Touch.grown ((Touch.refl _ w).alloc _) hgrow1 (fun k hk hlt => by simp [Value.ownBlock] at hk; omega); have HO1 := hid (And.intro hown1 hne1); have HGZ := hid hgrow1; clear hown1 hgrow1 hne1)
    | (at_builtin; refine append_bytes rfl _ _ rfl w.heap.size v1 (0 + bs.length) ([] ++ S bs) rfl (HO1.out.1.kept (World.grownBy_alloc w1 _ none) (own_none v1)) (some ⟨w1.heap.size, 0, none⟩) [c0, c1, c2, c3] 4 rfl (fun e => by cases e) (At.four w1 c0 c1 c2 c3) (by have := HL.out; simp; omega) (by have := hA1.size; simp; omega) ?_; intro v2 w2 hown2 hgrow2 _)
    | (go_at_call 10; refine HS.out.mono ?_; rintro e _ ⟨rfl, hw⟩; rw [hw]; clear hw))
  go_ret
  obtain ⟨g, cap2, rfl, hg, _⟩ := Own.some hown2 (by simp)
  have hS : S (sealed bs) = [] ++ S bs ++ S [c0, c1, c2, c3] := by simp [sealed, S, HLE.out]
  have hn : bs.length + 4 = 0 + bs.length + [c0, c1, c2, c3].length := by simp
  refine ⟨g, cap2, by rw [hn]; rfl, hg, by rw [hn, hS]; exact hown2, ?_⟩
  exact Touch.grown (hA1.alloc _) hgrow2 (fun k hk hlt => by have := (HO1.out.1.lt k hk).1; omega)
end Go.Proofs.YtikeplkbiajcgaaDoor
