/- Texts put together: DRef3, DRef4. -/
import Derived.Test.YtjbdchgadfhffaaGreatDoorQ13
import Derived.Test.YtjbdchgadfhffaaGreatDoorQ14
import Derived.Test.YtjbdchgadfhffaaGreatDoorQ12
import Derived.Deep.QuietTactic
import Derived.BigQuiet
import Derived.Maps.AppendAt
import Derived.Deep.RegionHeld3
/- The reference's Pending, Ints and Put. -/
namespace Go.Proofs.YtjbdchgadfhffaaGreatDoor
open Go.RowKit

/-- Numbers as cells. -/
def I64s (zs : List Int) : List Value := zs.map (Value.int .i64)
/-- The sectors of the writes that wait. -/
def places (W : List (Int × List UInt8)) : List Int := W.map (·.1)

set_option maxRecDepth 100000 in
theorem info3all : ∃ i, Tryz.prog.info? 3 = some i ∧ i.zero = some (.int .i64 0) ∧ i.size = 1 ∧ i.bytes = 8 := by
  have h : (Tryz.prog.info? 3).map (fun i => (i.zero, i.size, i.bytes)) = some (some (.int .i64 0), 1, 8) := by kernel_rfl
  cases hq : Tryz.prog.info? 3 with
  | none => rw [hq] at h; cases h
  | some i =>
    rw [hq] at h
    simp only [Option.map_some, Option.some.injEq, Prod.mk.injEq] at h
    exact ⟨i, rfl, h.1, h.2.1, h.2.2⟩
theorem one_int (z : Int) : ∀ u ∈ [Value.int .i64 z], u.oneCell' = true := fun u hu => by obtain rfl := List.mem_singleton.1 hu; rfl
set_option maxRecDepth 100000 in
theorem places_snoc (W : List (Int × List UInt8)) (k : Nat) (h : k < W.length) : I64s (places (W.take k)) ++ [.int .i64 W[k].1] = I64s (places (W.take (k + 1))) := by
  rw [List.take_add_one, List.getElem?_eq_getElem h, Option.toList_some]
  simp only [I64s, places, List.map_append, List.map_cons, List.map_nil]

/-- What Pending tells: numbers in new memory. -/
def PPend (w : World) (zs : List Int) (e : Ending) (w' : World) : Prop := ∃ v, e = .returned v ∧ w'.ownsRow w.heap.size 3 1 v zs.length (I64s zs) ∧ Adds w w'

/-- Where numbers lie. -/
def IntsAt (w : World) (a : Option Addr) (zs : List Int) : Prop := ∀ j (h : j < zs.length), ∃ b o, a = some ⟨b, o, none⟩ ∧ w.cell? ⟨b, o + j, none⟩ = some (.int .i64 zs[j])
set_option maxRecDepth 100000 in
theorem own_ints {w : World} {B : Nat} {v : Value} {zs : List Int} (h : w.ownsRow B 3 1 v zs.length (I64s zs)) : ∃ a cap, v = .slice a zs.length cap ∧ IntsAt w a zs := by
  rcases h.2 with ⟨e, hn⟩ | ⟨g, cap, cur, e, _, hgg, hnc, _⟩
  · exact ⟨none, 0, by rw [e, hn], fun j hj => by omega⟩
  · have hh := h
    rw [e] at hh
    refine ⟨some ⟨g, 0, none⟩, cap, e, fun j hj => ⟨g, 0, rfl, ?_⟩⟩
    rw [Nat.zero_add, hh.cellAt j (by omega)]
    simp [I64s, hj]

set_option maxRecDepth 100000 in
set_option maxHeartbeats 400000 in
theorem rput_bad (B p : Nat) (hv wv : Value) (D : dSt) (i : Int) (bs : List UInt8) (w : World) (hd : IsRef w B p hv wv D) (hi : ¬ (0 ≤ i ∧ i < D.size) ∨ bs.length ≠ 256) :
    Calls Tryz.prog 61 #[.pointer (some ⟨p, 0, none⟩), .int .i64 i, Str bs] w fun e w' => e = .returned (.int .i64 2) ∧ w' = w := by
  obtain ⟨g, cap, rfl, hcap, _, _, _⟩ := hd.heldAt
  have hs := hd.size
  have c0 : w.cell? ⟨p, 0, none⟩ = some (.slice (some ⟨g, 0, none⟩) D.size.toNat cap) := cellOf hd.box 0
  have hq : ((D.size.toNat : Nat) : Int) = D.size := Int.toNat_of_nonneg (by have := hs.1; clear hd c0; omega)
  clear hd
  unfold Str
  by_cases h0 : i < 0
  · go_enter Tryz.func61, Tryz.ntmps61
    go_wp2
    go_ret
    exact ⟨rfl, rfl⟩
  · by_cases h1 : D.size ≤ i
    · have h2 : decide (D.size ≤ i) = true := by simpa using h1
      clear hi
      go_enter Tryz.func61, Tryz.ntmps61
      go_wp2
      go_ret
      exact ⟨rfl, rfl⟩
    · have h2 : decide (D.size ≤ i) = false := by simp; omega
      have h3 : bs.length ≠ 256 := by rcases hi with h | h; exact absurd ⟨by omega, by omega⟩ h; exact h
      have h4 : ((bs.length : Int) == 256) = false := by simp; omega
      have h5 : (⟨bs.toArray⟩ : ByteArray).size = bs.length := by simp [ByteArray.size]
      clear hi h3
      go_enter Tryz.func61, Tryz.ntmps61
      go_wp2
      go_ret
      exact ⟨rfl, rfl⟩

set_option maxRecDepth 100000 in
set_option maxHeartbeats 400000 in
theorem rput_off (B p : Nat) (hv wv : Value) (D : dSt) (i : Int) (bs : List UInt8) (w : World) (hd : IsRef w B p hv wv D) (hi : 0 ≤ i ∧ i < D.size) (hbs : bs.length = 256) (hon : D.left = 0) :
    Calls Tryz.prog 61 #[.pointer (some ⟨p, 0, none⟩), .int .i64 i, Str bs] w fun e w' => e = .returned (.int .i64 10) ∧ w' = w := by
  obtain ⟨g, cap, rfl, hcap, _, _, _⟩ := hd.heldAt
  have hs := hd.size
  have c0 : w.cell? ⟨p, 0, none⟩ = some (.slice (some ⟨g, 0, none⟩) D.size.toNat cap) := cellOf hd.box 0
  have c3 : w.cell? ⟨p, 3, none⟩ = some (.int .i64 D.left) := cellOf hd.box 3
  rw [hon] at c3
  have hq : ((D.size.toNat : Nat) : Int) = D.size := Int.toNat_of_nonneg (by have := hs.1; clear hd c0 c3; omega)
  have h0 : ¬ i < 0 := by omega
  have h2 : decide (D.size ≤ i) = false := by simp; omega
  have h5 : (⟨bs.toArray⟩ : ByteArray).size = 256 := by simp [ByteArray.size, hbs]
  clear hd hi
  unfold Str
  go_enter Tryz.func61, Tryz.ntmps61
  go_wp2
  go_ret
  exact ⟨rfl, rfl⟩

end Go.Proofs.YtjbdchgadfhffaaGreatDoor

/- The reference's Put and Sync. -/
namespace Go.Proofs.YtjbdchgadfhffaaGreatDoor
open Go.RowKit

set_option maxRecDepth 100000 in
theorem info78all : ∃ i, Tryz.prog.info? 120 = some i ∧ i.zero = some (.agg #[.int .i64 0, Str []]) ∧ i.size = 2 ∧ i.bytes = 24 := by
  have h : (Tryz.prog.info? 120).map (fun i => (i.zero, i.size, i.bytes)) = some (some (.agg #[.int .i64 0, Str []]), 2, 24) := by kernel_rfl
  cases hq : Tryz.prog.info? 120 with
  | none => rw [hq] at h; cases h
  | some i =>
    rw [hq] at h
    simp only [Option.map_some, Option.some.injEq, Prod.mk.injEq] at h
    exact ⟨i, rfl, h.1, h.2.1, h.2.2⟩
theorem one_rcells (x : Int × List UInt8) : ∀ u ∈ rcells x, u.oneCell' = true := fun u hu => by
  simp only [rcells, List.mem_cons, List.not_mem_nil, or_false] at hu
  rcases hu with rfl | rfl <;> rfl
theorem cell_two_new (w : World) (a b : Value) (t : TypeId) : ∀ j u, [a, b][j]? = some u → (w.alloc (.cells #[a, b] t)).cell? ((⟨w.heap.size, 0, none⟩ : Addr).add j) = some u := fun j u hu => by
  rw [Addr.add_mid, Nat.zero_add, cellOf (heap_alloc_new w _)]
  simpa using hu

/-- What the reference's Put leaves. -/
def PRPut (w : World) (B p : Nat) (hv wv : Value) (D : dSt) (i : Int) (bs : List UInt8) (e : Ending) (w' : World) : Prop :=
  ∃ wv', e = .returned (.int .i64 0) ∧ IsRef w' B p hv wv' (D.wrote i bs) ∧ Touch (fun k => k = p ∨ wv.ownBlock = some k) w w' ∧ ∀ k, wv'.ownBlock = some k → wv.ownBlock = some k ∨ w.heap.size ≤ k

set_option maxRecDepth 100000 in
theorem rput_mem {w w' : World} {B p : Nat} {hv wv v' : Value} {D : dSt} (i : Int) (bs : List UInt8) (hbs : bs.length = 256) (hi : 0 ≤ i ∧ i < D.size) (hd : IsRef w B p hv wv D) (A : Obj)
    (hown : w'.ownsRow B 120 2 v' (D.W.length + 1) (rflat D.W ++ rcells (i, bs))) (hgrow : (w.alloc A).grownBy w' wv.ownBlock) (s l : Int) :
    (w'.heap[p]? = some (.cells #[hv, wv, .int .i64 D.steps, .int .i64 D.left] 52 (0, 0))) ∧ ((w'.setCell ⟨p, 1, none⟩ v').heap[p]? = some (.cells #[hv, v', .int .i64 D.steps, .int .i64 D.left] 52 (0, 0))) ∧
    IsRef ((w'.setCell ⟨p, 1, none⟩ v').setRow p #[hv, v', .int .i64 s, .int .i64 l]) B p hv v' { D with W := D.W ++ [(i, bs)], steps := s, left := l } ∧
    Touch (fun k => k = p ∨ wv.ownBlock = some k) w ((w'.setCell ⟨p, 1, none⟩ v').setRow p #[hv, v', .int .i64 s, .int .i64 l]) := by
  have hplt : p < w.heap.size := (Array.getElem?_eq_some_iff.1 hd.box).1
  have hp' : w'.heap[p]? = some (.cells #[hv, wv, .int .i64 D.steps, .int .i64 D.left] 52 (0, 0)) := by
    rw [hgrow.block p (by simp; omega) (fun e => hd.ne.2.1 p e.symm rfl), Below.heap_alloc _ _ _ hplt]; exact hd.box
  have hbox2 := heap_setCell_same w' p 1 _ 52 v' hp'
  have hT : Touch (fun k => wv.ownBlock = some k) w w' := Touch.grown ((Touch.refl _ w).alloc _) hgrow (fun k hk _ => hk)
  have hT1 : Touch (fun k => k = p) w' ((w'.setCell ⟨p, 1, none⟩ v').setRow p #[hv, v', .int .i64 s, .int .i64 l]) := Touch.setRow (T := fun k => k = p) (Touch.setCell (T := fun k => k = p) (Touch.refl _ w') (fun _ => rfl) _) (fun _ => rfl) _
  refine ⟨hp', hbox2, ⟨setRow_heap _ p _ _ 52 _ hbox2, ?_, ?_, ?_, hd.low, hd.size, hd.good, ?_⟩, ?_⟩
  · exact own_kept (own_kept hd.held hT (fun k hk e => hd.ne.2.2 k k hk e rfl)) hT1 (fun k hk => hd.ne.1 k hk)
  · show World.ownsRow _ B 120 2 v' (D.W ++ [(i, bs)]).length (rflat (D.W ++ [(i, bs)]))
    rw [rflat_snoc, List.length_append]
    refine own_kept hown hT1 (fun k hk e => ?_)
    subst e
    obtain ⟨c, hc⟩ := own_type hown hk
    rw [hp'] at hc; simp at hc
  · intro x hx
    rcases List.mem_append.1 hx with hx | hx
    · exact hd.places x hx
    · obtain rfl := List.mem_singleton.1 hx; exact hi
  · intro x hx
    rcases List.mem_append.1 hx with hx | hx
    · exact hd.goodW x hx
    · obtain rfl := List.mem_singleton.1 hx; exact hbs
  · exact (hT.mono (fun k _ h => .inr h)).then hT1 (fun k _ h => .inl h)

set_option maxRecDepth 100000 in
theorem hat_of {w : World} {o : Obj} {v v' : Value} (h : v'.ownBlock = v.ownBlock ∨ v'.ownBlock = some (w.alloc o).heap.size) : ∀ k, v'.ownBlock = some k → v.ownBlock = some k ∨ w.heap.size ≤ k := by
  intro k hk
  rcases h with c | c
  · exact .inl (by rw [← c]; exact hk)
  · refine .inr ?_
    rw [c] at hk
    have e : (w.alloc o).heap.size = k := Option.some.inj hk
    simp at e
    omega
set_option maxRecDepth 100000 in
set_option maxHeartbeats 1000000 in
theorem rput_ok (B p : Nat) (hv wv : Value) (D : dSt) (i : Int) (bs : List UInt8) (w : World) (hd : IsRef w B p hv wv D) (hB : B ≤ w.heap.size) (hl : D.W.length ≤ 1000) (hi : 0 ≤ i ∧ i < D.size) (hbs : bs.length = 256) (hon : D.left ≠ 0)
    (hs0 : 0 ≤ D.steps) (hs1 : D.steps < 1000000) (hl0 : -1 ≤ D.left) (hl1 : D.left ≤ 9223372036854775807) :
    Calls Tryz.prog 61 #[.pointer (some ⟨p, 0, none⟩), .int .i64 i, Str bs] w (PRPut w B p hv wv D i bs) := by
  obtain ⟨g, cap, rfl, hcap, _, _, _⟩ := hd.heldAt
  obtain ⟨ao, wcap, rfl, hwcap, _⟩ := hd.waitAt
  obtain ⟨i78, hi78, hz0, hz1, hz2⟩ := info78all
  have hs := hd.size
  have c0 : w.cell? ⟨p, 0, none⟩ = some (.slice (some ⟨g, 0, none⟩) D.size.toNat cap) := cellOf hd.box 0
  have c1 : w.cell? ⟨p, 1, none⟩ = some (.slice ao D.W.length wcap) := cellOf hd.box 1
  have c3 : w.cell? ⟨p, 3, none⟩ = some (.int .i64 D.left) := cellOf hd.box 3
  have hq : ((D.size.toNat : Nat) : Int) = D.size := Int.toNat_of_nonneg (by have := hs.1; clear hd c0 c3; omega)
  have h0 : ¬ i < 0 := by omega
  have h2 : decide (D.size ≤ i) = false := by simp; omega
  have h3 : (D.left == 0) = false := by simp [hon]
  have h5 : (⟨bs.toArray⟩ : ByteArray).size = 256 := by simp [ByteArray.size, hbs]
  have HMEM := hid (fun (w' : World) (v' : Value) (ho : w'.ownsRow B 120 2 v' (D.W.length + 1) (rflat D.W ++ rcells (i, bs))) (hg : (w.alloc (.cells #[.int .i64 i, Str bs] 120)).grownBy w' (Value.slice ao D.W.length wcap).ownBlock) => rput_mem i bs hbs hi hd _ ho hg (D.steps + 1) (less D.left))
  have HOWN := hid (hd.wait.alloc (.cells #[.int .i64 i, Str bs] 120))
  have H3 := hid (show D.W.length + 1 ≤ maxLen by unfold maxLen; omega)
  have H4 := hid (show (D.W.length + 1) * 24 ≤ 140737488355328 by omega)
  have H5 := hid (show B ≤ (w.alloc (.cells #[.int .i64 i, Str bs] 120)).heap.size by simp; omega)
  have HPL := hid ((Array.getElem?_eq_some_iff.1 hd.box).1)
  clear hd hi hon
  unfold Str at *
  go_enter Tryz.func61, Tryz.ntmps61
  go_wp2_with (first
    | (at_builtin; refine wpList_append_own_at _ rfl _ _ 50 rfl B 120 i78 _ 2 24 Tryz.underlying50 hi78 hz0 hz1 hz2 rfl (by decide) _ D.W.length (rflat D.W) rfl HOWN.out ⟨w.heap.size, 0, none⟩ 1 1 [.int .i64 i, .string ⟨bs.toArray⟩] rfl rfl (cell_two_new _ _ _ _) (one_rcells (i, bs)) H3.out H4.out H5.out ?_; intro v' w3 hown' hgrow' _ hat'; have HAT := hid (hat_of hat'); clear hat'; obtain ⟨g', cap', rfl⟩ := own_some hown'; obtain ⟨hm1, hm2, hm3, hm4⟩ := HMEM.out _ _ hown' hgrow'; have c3' := cellOf hm1 1; have f3 := frozen_of_row w3 p 1 _ 52 hm1; have HM2 := hid hm2; have HM3 := hid hm3; clear hm1 hm2 hm3)
    | (go_at_call 84; refine (rstep_any p _ _ D.steps D.left _ HM2.out hs0 hs1 hl0 hl1).mono ?_; rintro e w4 ⟨rfl, hw4⟩))
  go_ret
  subst hw4
  exact ⟨_, rfl, HM3.out, hm4, HAT.out⟩

set_option maxRecDepth 100000 in
set_option maxHeartbeats 400000 in
theorem rsync_off (B p : Nat) (hv wv : Value) (D : dSt) (w : World) (hd : IsRef w B p hv wv D) (hon : D.left = 0) :
    Calls Tryz.prog 62 #[.pointer (some ⟨p, 0, none⟩)] w fun e w' => e = .returned (.int .i64 10) ∧ w' = w := by
  have c3 : w.cell? ⟨p, 3, none⟩ = some (.int .i64 D.left) := cellOf hd.box 3
  rw [hon] at c3
  clear hd
  go_enter Tryz.func62, Tryz.ntmps62
  go_wp2
  go_ret
  exact ⟨rfl, rfl⟩

/-- A store leaves the other blocks' cells. -/
theorem cell_setCell_block (w : World) (p : Addr) (v : Value) (a : Addr) (h : a.block ≠ p.block) : (w.setCell p v).cell? a = w.cell? a := World.cell?_of_block (heap_setCell_other w p a.block v h)
theorem frozen_setCell {w : World} {g j : Nat} {c : Array Value} {t : TypeId} (h : w.heap[g]? = some (.cells c t (0, 0))) (m : Nat) (v : Value) : (w.setCell ⟨g, j, none⟩ v).frozen? ⟨g, m, none⟩ = false := frozen_of_row _ g m _ t (heap_setCell_same w g j c t v h)
set_option maxRecDepth 100000 in
theorem cell_setCell_same {w : World} {g j : Nat} {c : Array Value} {t : TypeId} (h : w.heap[g]? = some (.cells c t (0, 0))) {u : Value} (hc : w.cell? ⟨g, j, none⟩ = some u) (v : Value) : (w.setCell ⟨g, j, none⟩ v).cell? ⟨g, j, none⟩ = some v := by
  rw [cellOf (heap_setCell_same w g j c t v h)]
  rw [cellOf h] at hc
  have := (Array.getElem?_eq_some_iff.1 hc).1
  simp [this]

set_option maxRecDepth 100000 in
theorem run_store_str (w : World) (g m : Nat) (bs : List UInt8) {u : Value} (hc : w.cell? ⟨g, m, none⟩ = some u) (hf : w.frozen? ⟨g, m, none⟩ = false) : (store ⟨g, m, none⟩ (Str bs)).run Tryz.prog w = .ok () (w.setCell ⟨g, m, none⟩ (Str bs)) := by
  rw [run_store _ _ _ _ _ rfl, hc]; simp [hf]

/-- What the reference's Sync leaves. -/
def PRSync (w : World) (B p : Nat) (hv : Value) (D : dSt) (e : Ending) (w' : World) : Prop := e = .returned (.int .i64 0) ∧ IsRef w' B p hv (.slice none 0 0) D.synced ∧ Touch (fun k => k = p ∨ hv.ownBlock = some k) w w'

set_option maxRecDepth 100000 in
/-- A store into what is held. -/
theorem IsRef.setHeld {w : World} {B p g cap : Nat} {wv : Value} {D : dSt} (hd : IsRef w B p (.slice (some ⟨g, 0, none⟩) D.size.toNat cap) wv D) (i : Nat) (bs : List UInt8) (hl : bs.length = 256) :
    IsRef (w.setCell ⟨g, i, none⟩ (Str bs)) B p (.slice (some ⟨g, 0, none⟩) D.size.toNat cap) wv { D with H := upd D.H (i : Int) bs } := by
  have hT : Touch (fun k => k = g) w (w.setCell ⟨g, i, none⟩ (Str bs)) := Touch.setCell (T := fun k => k = g) (Touch.refl _ w) (fun _ => rfl) _
  have h := (hd.held.stored i (Str bs)).1
  rw [strs_set] at h
  refine ⟨?_, h, own_kept hd.wait hT (fun k hk e => hd.ne.2.2 g k rfl hk e.symm), hd.places, hd.low, hd.size, upd_len hd.good _ hl, hd.goodW⟩
  rw [hT.block p (Array.getElem?_eq_some_iff.1 hd.box).1 (fun e => hd.ne.1 g rfl e.symm)]; exact hd.box

set_option maxRecDepth 100000 in
theorem rsync_mem {w : World} {B p : Nat} {hv wv : Value} {D : dSt} (hd : IsRef w B p hv wv D) (s l : Int) :
    IsRef ((w.setCell ⟨p, 1, none⟩ (.slice none 0 0)).setRow p #[hv, .slice none 0 0, .int .i64 s, .int .i64 l]) B p hv (.slice none 0 0) { D with W := [], steps := s, left := l } := by
  have hT1 : Touch (fun k => k = p) w ((w.setCell ⟨p, 1, none⟩ (.slice none 0 0)).setRow p #[hv, .slice none 0 0, .int .i64 s, .int .i64 l]) := Touch.setRow (T := fun k => k = p) (Touch.setCell (T := fun k => k = p) (Touch.refl _ w) (fun _ => rfl) _) (fun _ => rfl) _
  exact ⟨setRow_heap _ p _ _ 52 _ (heap_setCell_same w p 1 _ 52 _ hd.box), own_kept hd.held hT1 hd.ne.1, World.ownsRow_nil _ _ _ _, fun x hx => (by cases hx), hd.low, hd.size, hd.good, fun x hx => (by cases hx)⟩

set_option maxRecDepth 100000 in
set_option maxHeartbeats 2000000 in
theorem rsync_ok (B p : Nat) (hv wv : Value) (D : dSt) (w : World) (hd : IsRef w B p hv wv D) (hl : D.W.length ≤ 1000) (hon : D.left ≠ 0)
    (hs0 : 0 ≤ D.steps) (hs1 : D.steps < 1000000) (hl0 : -1 ≤ D.left) (hl1 : D.left ≤ 9223372036854775807) :
    Calls Tryz.prog 62 #[.pointer (some ⟨p, 0, none⟩)] w (PRSync w B p hv D) := by
  obtain ⟨g, cap, rfl, hcap, _, _, _⟩ := hd.heldAt
  obtain ⟨ao, wcap, rfl, hwcap, _⟩ := hd.waitAt
  have c3 : w.cell? ⟨p, 3, none⟩ = some (.int .i64 D.left) := cellOf hd.box 3
  have h3 : (D.left == 0) = false := by simp [hon]
  have HD := hid hd
  clear hd hon
  go_enter Tryz.func62, Tryz.ntmps62
  go_wp2
  go_loopw [3] (fun t wr => ∃ k : Nat, k ≤ D.W.length ∧ t = .int .i64 k ∧ Hid (IsRef wr B p (.slice (some ⟨g, 0, none⟩) D.size.toNat cap) (.slice ao D.W.length wcap) { D with H := syncH D.H (D.W.take k) } ∧ Touch (fun j => j = g) w wr)) (fun t _ => D.W.length - (intOf t).toNat)
  case atStart => exact ⟨0, Nat.zero_le _, rfl, HD.out, Touch.refl _ _⟩
  case round =>
    obtain ⟨k, hk, rfl, HH⟩ := hrel
    have c0r : wr.cell? ⟨p, 0, none⟩ = some (.slice (some ⟨g, 0, none⟩) D.size.toNat cap) := cellOf HH.out.1.box 0
    have c1r : wr.cell? ⟨p, 1, none⟩ = some (.slice ao D.W.length wcap) := cellOf HH.out.1.box 1
    clear c3 HD
    by_cases hlt : k < D.W.length
    · have hHS := hid (syncH_snoc D.H D.W k hlt)
      obtain ⟨ao', wcap', he, _, hrest⟩ := HH.out.1.waitAt
      obtain ⟨gw, rfl, _, hc, _⟩ := hrest (show 0 < D.W.length by omega)
      obtain ⟨rfl, rfl⟩ : ao = some ⟨gw, 0, none⟩ ∧ wcap = wcap' := by simpa using he
      have hc0 : wr.cell? ⟨gw, k * 2, none⟩ = some (.int .i64 D.W[k].1) := (hc k hlt).1
      have hc1 : wr.cell? ⟨gw, k * 2 + 1, none⟩ = some (Str D.W[k].2) := (hc k hlt).2
      have hp0 : 0 ≤ D.W[k].1 := (HH.out.1.places _ (List.getElem_mem hlt)).1
      have hp1 : D.W[k].1 < D.size := (HH.out.1.places _ (List.getElem_mem hlt)).2
      have HGD : Hid (D.W[k].2.length = 256) := HH.out.1.goodW _ (List.getElem_mem hlt)
      clear hc hrest he
      generalize D.W[k] = x at hHS hc0 hc1 hp0 hp1 HGD
      obtain ⟨xi, xb⟩ := x
      simp only at hHS hc0 hc1 hp0 hp1 HGD
      obtain ⟨m, rfl⟩ : ∃ m : Nat, xi = m := ⟨xi.toNat, (Int.toNat_of_nonneg hp0).symm⟩
      have hm : m < D.size.toNat := by clear hc0 hc1 c0r c1r; omega
      obtain ⟨g2, cap2, he2, _, _, hcell, hfr⟩ := HH.out.1.heldAt
      obtain ⟨rfl, rfl⟩ : g = g2 ∧ cap = cap2 := by simpa using he2
      have hcm := hcell m hm
      have hfm := hfr m
      have HSET := hid (IsRef.setHeld (D := { D with H := syncH D.H (D.W.take k) }) HH.out.1 m xb HGD.out)
      clear hcell hfr he2
      have hne : p ≠ g := fun e => HH.out.1.ne.1 g rfl e.symm
      have hne2 : gw ≠ g := fun e => HH.out.1.ne.2.2 g gw rfl rfl e.symm
      have HK1 := hid (show wr.drew.cell? ⟨p, 0, none⟩ = some (.slice (some ⟨g, 0, none⟩) D.size.toNat cap) ∧ wr.drew.cell? ⟨p, 1, none⟩ = some (.slice (some ⟨gw, 0, none⟩) D.W.length wcap) ∧ wr.drew.cell? ⟨gw, k * 2, none⟩ = some (.int .i64 m) ∧ wr.drew.cell? ⟨gw, k * 2 + 1, none⟩ = some (Str xb) ∧ (∃ u, wr.drew.cell? ⟨g, m, none⟩ = some u) ∧ wr.drew.frozen? ⟨g, m, none⟩ = false from ⟨c0r, c1r, hc0, hc1, ⟨_, hcm⟩, hfm⟩)
      have HK2 := hid (show (wr.drew.setCell ⟨g, m, none⟩ (Str xb)).cell? ⟨p, 0, none⟩ = some (.slice (some ⟨g, 0, none⟩) D.size.toNat cap) ∧ (wr.drew.setCell ⟨g, m, none⟩ (Str xb)).cell? ⟨p, 1, none⟩ = some (.slice (some ⟨gw, 0, none⟩) D.W.length wcap) ∧ (wr.drew.setCell ⟨g, m, none⟩ (Str xb)).cell? ⟨gw, k * 2, none⟩ = some (.int .i64 m) ∧ (wr.drew.setCell ⟨g, m, none⟩ (Str xb)).cell? ⟨gw, k * 2 + 1, none⟩ = some (Str xb) ∧ (∃ u, (wr.drew.setCell ⟨g, m, none⟩ (Str xb)).cell? ⟨g, m, none⟩ = some u) ∧ (wr.drew.setCell ⟨g, m, none⟩ (Str xb)).frozen? ⟨g, m, none⟩ = false by
        refine ⟨?_, ?_, ?_, ?_, ⟨Str xb, ?_⟩, ?_⟩
        · rw [cell_setCell_block _ _ _ _ hne]; exact c0r
        · rw [cell_setCell_block _ _ _ _ hne]; exact c1r
        · rw [cell_setCell_block _ _ _ _ hne2]; exact hc0
        · rw [cell_setCell_block _ _ _ _ hne2]; exact hc1
        · obtain ⟨c, hc⟩ := own_type HH.out.1.held rfl
          exact cell_setCell_same (w := wr.drew) hc hcm _
        · obtain ⟨c, hc⟩ := own_type HH.out.1.held rfl
          exact frozen_setCell (w := wr.drew) hc m _)
      have hq : ((D.size.toNat : Nat) : Int) = D.size := Int.toNat_of_nonneg (by clear hc0 hc1 c0r c1r; omega)
      have hst := run_store_str wr.drew g m xb hcm hfm
      go_upto_region 6 with fail
      go_region_held3 (fun w' => w'.cell? ⟨p, 0, none⟩ = some (.slice (some ⟨g, 0, none⟩) D.size.toNat cap) ∧ w'.cell? ⟨p, 1, none⟩ = some (.slice (some ⟨gw, 0, none⟩) D.W.length wcap) ∧ w'.cell? ⟨gw, k * 2, none⟩ = some (.int .i64 m) ∧ w'.cell? ⟨gw, k * 2 + 1, none⟩ = some (Str xb) ∧ (∃ u, w'.cell? ⟨g, m, none⟩ = some u) ∧ w'.frozen? ⟨g, m, none⟩ = false) (first | exact HK1.out | exact HK2.out) (fail)
      go_wp2
      go_roundw
      case rel =>
        refine ⟨k + 1, by omega, by go_num, ?_, ?_⟩
        · rw [hHS.out]; exact (HSET.out.adds (Touch.refl _ _).drew)
        · exact HH.out.2.drew.setCell (fun _ => rfl) _
      case measure => simp [intOf]; omega
    · obtain rfl : k = D.W.length := by omega
      have f1 : wr.frozen? ⟨p, 1, none⟩ = false := frozen_of_row wr p 1 _ 52 HH.out.1.box
      have hbox2 := hid (heap_setCell_same wr p 1 _ 52 (.slice none 0 0) HH.out.1.box)
      go_wp2_with (go_at_call 84; refine (rstep_any p _ _ D.steps D.left _ hbox2.out hs0 hs1 hl0 hl1).mono ?_; rintro e w4 ⟨rfl, hw4⟩)
      go_ret
      have hm := rsync_mem HH.out.1 (D.steps + 1) (less D.left)
      subst hw4
      refine ⟨rfl, ?_, ?_⟩
      · rw [List.take_length] at hm; exact hm
      · have hT : Touch (fun j => j = p ∨ (Value.slice (some ⟨g, 0, none⟩) D.size.toNat cap).ownBlock = some j) w wr := HH.out.2.mono (fun j _ e => .inr (by rw [e]; rfl))
        exact (hT.setCell (fun _ => .inl rfl) _).setRow (fun _ => .inl rfl) _

end Go.Proofs.YtjbdchgadfhffaaGreatDoor
