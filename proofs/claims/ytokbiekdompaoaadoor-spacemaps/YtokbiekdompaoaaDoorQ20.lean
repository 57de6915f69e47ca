/- Texts put together: DClone, DRead. -/
import Derived.Test.YtokbiekdompaoaaDoorQ18
import Derived.Laws.Externs
import Derived.Test.YtokbiekdompaoaaDoorQ19
/- maps.Clone and slices.Clone, as the disk calls them. -/
namespace Go.Proofs.YtokbiekdompaoaaDoor
open Go.RowKit

section
variable {P : Program} (w : World)
set_option maxRecDepth 100000 in
theorem run_equalIn_map_nil' (d : Nat) (t k e : TypeId) (p : Option Nat) (h : P.underlying t = some (.map k e)) :
    (Op.equalIn (d + 1) t (.map p) (.map none)).run P w = .ok p.isNone w := by
  cases p <;> simp [Op.equalIn, run_underlying h]
set_option maxRecDepth 100000 in
theorem run_eql_map_nil' (t k e : TypeId) (p : Option Nat) (h : P.underlying t = some (.map k e)) :
    (binOp .eql t (.map p) (.map none)).run P w = .ok (.bool p.isNone) w := by
  simp only [binOp]
  simp [show Op.equal t (.map p) (.map none) = Op.equalIn (9999 + 1) t (.map p) (.map none) from rfl, run_equalIn_map_nil' w 9999 t k e p h]
set_option maxRecDepth 100000 in
theorem run_typeAssert_map' (t xT k e : TypeId) (v : Value) (h : P.underlying t = some (.map k e)) : (Instr.typeAssert (.iface t v) xT t false).run P w = .ok v w := by
  simp [Instr.typeAssert, run_underlying h, go_sem, Result.andThen]
set_option maxRecDepth 100000 in
theorem run_maps_clone' {r : Nat} {es : Array MapEntry} {clock : Nat} (t : TypeId) (hb : w.heap[r]? = some (.map es clock)) :
    (Extern.MapsClone.clone #[.iface t (.map (some r))]).run P w = .ok (.iface t (.map (some w.heap.size))) (w.alloc (.map es clock)) := by
  have e : Extern.MapsClone.clone #[.iface t (.map (some r))] = (getObj r >>= fun o => match o with
      | .map entries clock => (newObj (.map entries clock) >>= fun n => pure (.iface t (.map (some n))))
      | _ => stuck "maps.clone: a map expected") := rfl
  rw [e]
  simp [MapKept.run_getObj_map hb, Result.andThen, go_sem]
end

/-- What slices.Clone tells: the bytes in new memory. -/
def dPClone (w : World) (bs : List UInt8) (e : Ending) (w' : World) : Prop := ∃ v, e = .returned v ∧ w'.ownsRow w.heap.size 5 1 v bs.length (S bs) ∧ v ≠ .slice none 0 0 ∧ Adds w w'

set_option maxRecDepth 100000 in
set_option maxHeartbeats 1000000 in
theorem slicesClone_any (g off cap : Nat) (bs : List UInt8) (w : World) (hn : 0 < bs.length) (hm : bs.length ≤ 4096) (hr : w.rangeAt g off (S bs)) :
    Calls Tryd.prog 54 #[.slice (some ⟨g, off, none⟩) bs.length cap] w (dPClone w bs) := by
  have hq := fun w => Lib.run_eql_slice_nil (P := Tryd.prog) w 55 5 (some ⟨g, off, none⟩) bs.length cap 0 0 Tryd.underlying55
  obtain ⟨i0, hi, hz0, hz1, hz2⟩ := info5all
  have HR : Hid (w.rangeAt g off (S bs)) := hr
  clear hr
  have h1 : (S bs).length = bs.length * 1 := by rw [length_S, Nat.mul_one]
  have h2 : ∀ j u, (S bs)[j]? = some u → (w.alloc (.cells #[] 5)).cell? ((⟨g, off, none⟩ : Addr).add j) = some u := by
    intro j u hu
    rw [Addr.add_mid]
    exact World.rangeAt_alloc HR.out _ j u hu
  have h3 : 0 + bs.length ≤ maxLen := by unfold maxLen; omega
  have h4 : (0 + bs.length) * 1 ≤ 140737488355328 := by omega
  have h5 : w.heap.size ≤ (w.alloc (.cells #[] 5)).heap.size := by simp
  have H1 := hid (h1)
  have H2 := hid (h2)
  have H3 := hid (h3)
  have H4 := hid (h4)
  have H5 := hid (h5)
  clear h1 h2 h3 h4 h5
  go_enter Tryd.func54, Tryd.ntmps54
  go_wp2_with (at_builtin; refine wpList_append_own _ rfl _ _ 55 rfl w.heap.size 5 i0 (.int .u8 0) 1 1 Tryd.underlying55 hi hz0 hz1 hz2 rfl (by decide) (.slice (some ⟨w.heap.size, 0, none⟩) 0 0) 0 [] rfl (World.ownsRow_lit w #[] 0 (Nat.le_refl _) (by decide) rfl) ⟨g, off, none⟩ bs.length cap (S bs) rfl H1.out H2.out (one_S bs) H3.out H4.out H5.out ?_; intro v' w3 hown' hgrow3 hnil3)
  go_ret
  refine ⟨v', rfl, ?_, ?_, ?_⟩
  · simpa using hown'
  · intro e; exact absurd (hnil3.1 e).1 (by simp)
  · exact Touch.grown (T := fun _ => False) ((Touch.refl _ w).alloc _) hgrow3 (fun k hk hlt => by simp [Value.ownBlock] at hk; omega)

end Go.Proofs.YtokbiekdompaoaaDoor

/- Read. -/
namespace Go.Proofs.YtokbiekdompaoaaDoor
open Go.RowKit

/-- A disk that is nil, or that no call made. -/
def Unmade (w : World) (x : Value) : Prop := Calls Tryd.prog 33 #[x] w fun e w' => e = .returned (.bool false) ∧ w' = w
theorem unmade_nil (w : World) : Unmade w (.pointer none) := made_nil w
theorem unmade_zero {w : World} {b : Nat} (c0 : w.cell? ⟨b, 0, none⟩ = some (.int .i64 0)) : Unmade w (.pointer (some ⟨b, 0, none⟩)) := made_any b 0 w c0

set_option maxRecDepth 100000 in
set_option maxHeartbeats 400000 in
theorem read_un (x : Value) (i : Int) (w : World) (hu : Unmade w x) : Calls Tryd.prog 64 #[x, .int .i64 i] w fun e w' => e = .returned (.tuple #[.slice none 0 0, .int .i64 1]) ∧ w' = w := by
  go_enter Tryd.func64, Tryd.ntmps64
  go_wp2_with (go_at_call 33; refine (show Calls Tryd.prog 33 #[x] w _ from hu).mono ?_; rintro e w' ⟨rfl, rfl⟩)
  go_ret2
  exact ⟨rfl, rfl⟩

set_option maxRecDepth 100000 in
set_option maxHeartbeats 400000 in
theorem read_bad (p : Nat) (n i : Int) (w : World) (c0 : w.cell? ⟨p, 0, none⟩ = some (.int .i64 n)) (hn : 0 < n) (hi : ¬ (0 ≤ i ∧ i < n)) :
    Calls Tryd.prog 64 #[.pointer (some ⟨p, 0, none⟩), .int .i64 i] w fun e w' => e = .returned (.tuple #[.slice none 0 0, .int .i64 2]) ∧ w' = w := by
  have d1 : decide (0 < n) = true := by simpa using hn
  have d2 : (decide (0 ≤ i) && decide (i < n)) = false := by
    rw [Bool.and_eq_false_iff]
    by_cases h : 0 ≤ i
    · right; simp; omega
    · left; simpa using h
  have m1 := made_any p n w c0
  have m2 := hasSector_any p n i w c0
  rw [d1] at m1; rw [d2] at m2
  have M1 := hid (m1)
  have M2 := hid (m2)
  clear m1 m2 d1 d2 hi hn c0
  go_enter Tryd.func64, Tryd.ntmps64
  go_wp2_with (first
    | (go_at_call 33; refine M1.out.mono ?_; rintro e w' ⟨rfl, rfl⟩)
    | (go_at_call 75; refine M2.out.mono ?_; rintro e w' ⟨rfl, rfl⟩))
  go_ret2
  exact ⟨rfl, rfl⟩

set_option maxRecDepth 100000 in
set_option maxHeartbeats 400000 in
theorem read_off (p : Nat) (n i : Int) (w : World) (c0 : w.cell? ⟨p, 0, none⟩ = some (.int .i64 n)) (c4 : w.cell? ⟨p, 4, none⟩ = some (.int .i64 0)) (hn : 0 < n) (hi : 0 ≤ i ∧ i < n) :
    Calls Tryd.prog 64 #[.pointer (some ⟨p, 0, none⟩), .int .i64 i] w fun e w' => e = .returned (.tuple #[.slice none 0 0, .int .i64 10]) ∧ w' = w := by
  have d1 : decide (0 < n) = true := by simpa using hn
  have d2 : (decide (0 ≤ i) && decide (i < n)) = true := by simp [hi.1, hi.2]
  have m1 := made_any p n w c0
  have m2 := hasSector_any p n i w c0
  have m3 := off_any p 0 w c4
  rw [d1] at m1; rw [d2] at m2
  have M1 := hid (m1)
  have M2 := hid (m2)
  have M3 := hid (m3)
  clear m1 m2 m3 d1 d2 hi hn c0 c4
  go_enter Tryd.func64, Tryd.ntmps64
  go_wp2_with (first
    | (go_at_call 33; refine M1.out.mono ?_; rintro e w' ⟨rfl, rfl⟩)
    | (go_at_call 75; refine M2.out.mono ?_; rintro e w' ⟨rfl, rfl⟩)
    | (go_at_call 76; refine M3.out.mono ?_; rintro e w' ⟨rfl, rfl⟩))
  go_ret2
  exact ⟨rfl, rfl⟩

set_option maxRecDepth 100000 in
theorem slicesClone_256 (g cap : Nat) (bs : List UInt8) (w : World) (h : bs.length = 256) (hr : w.rangeAt g 0 (S bs)) : Calls Tryd.prog 54 #[.slice (some ⟨g, 0, none⟩) 256 cap] w (dPClone w bs) := by
  have := slicesClone_any g 0 cap bs w (by omega) (by omega) hr
  rw [h] at this; exact this

set_option maxRecDepth 100000 in
theorem rangeAt_row {w : World} {g : Nat} {cs : List Value} {t : TypeId} {fr : Nat × Nat} (h : w.heap[g]? = some (.cells cs.toArray t fr)) : w.rangeAt g 0 cs := by
  intro j v hv
  rw [cellOf h, Nat.zero_add]; simpa using hv

/-- What Read tells: the bytes, in new memory. -/
def dPRead (w : World) (bs : List UInt8) (e : Ending) (w' : World) : Prop := ∃ v, e = .returned (.tuple #[v, .int .i64 0]) ∧ w'.ownsRow w.heap.size 5 1 v 256 (S bs) ∧ v ≠ .slice none 0 0 ∧ Adds w w'

set_option maxRecDepth 100000 in
theorem hasOf_len {H : Int → List UInt8} (i : Int) (hH : ∀ k, (H k).length = 256) : ∀ (W : List (Int × List UInt8)), (∀ x ∈ W, x.2.length = 256) → (hasOf H W i).length = 256 := by
  have key : ∀ (W : List (Int × List UInt8)) (z : List UInt8), z.length = 256 → (∀ x ∈ W, x.2.length = 256) → (W.foldl (fun acc x => if x.1 = i then x.2 else acc) z).length = 256 := by
    intro W
    induction W with
    | nil => intro z hz _; exact hz
    | cons x W ih =>
      intro z hz h
      rw [List.foldl_cons]
      refine ih _ ?_ (fun y hy => h y (List.mem_cons_of_mem _ hy))
      split
      · exact h x List.mem_cons_self
      · exact hz
  intro W hW
  exact key W _ (hH i) hW

set_option maxRecDepth 100000 in
set_option maxHeartbeats 1000000 in
theorem read_ok (B p hb : Nat) (wv : Value) (D : dSt) (i : Int) (w : World) (hd : IsDisk w B p hb wv D) (hl : D.W.length ≤ 1000) (hi : 0 ≤ i ∧ i < D.size) (hon : D.left ≠ 0) :
    Calls Tryd.prog 64 #[.pointer (some ⟨p, 0, none⟩), .int .i64 i] w (dPRead w (hasOf D.H D.W i)) := by
  have hzv := zero74
  have d1 : decide (0 < D.size) = true := by have := hi.1; have := hi.2; simp; omega
  have d2 : (decide (0 ≤ i) && decide (i < D.size)) = true := by simp [hi.1, hi.2]
  have d3 : (D.left == 0) = false := by simp [hon]
  have m1 := made_any p D.size w (cellOf hd.box 0)
  have m2 := hasSector_any p D.size i w (cellOf hd.box 0)
  have m3 := off_any p D.left w (cellOf hd.box 4)
  rw [d1] at m1; rw [d2] at m2; rw [d3] at m3
  have M1 := hid (m1)
  have M2 := hid (m2)
  have M3 := hid (m3)
  have M4 := hid (has_any B p hb wv D i w hd hl)
  have hlen := hasOf_len i hd.good D.W hd.goodW
  generalize hasOf D.H D.W i = bs at *
  have hi74 : Hid ((Tryd.prog.info? 117).map (·.size) = some (S bs).toArray.size) := show _ = _ by rw [info74, List.size_toArray, length_S, hlen]
  have ho74 : Hid ((S zeros).toArray.size = (S bs).toArray.size) := show _ = _ by rw [List.size_toArray, length_S, length_zeros, List.size_toArray, length_S, hlen]
  have HL : Hid (bs.length = 256) := hlen
  clear m1 m2 m3 d1 d2 d3 hi hon hd hlen
  go_enter Tryd.func64, Tryd.ntmps64
  go_wp2_with (first
    | (go_at_call 33; refine M1.out.mono ?_; rintro e w ⟨rfl, rfl⟩)
    | (go_at_call 75; refine M2.out.mono ?_; rintro e w ⟨rfl, rfl⟩)
    | (go_at_call 76; refine M3.out.mono ?_; rintro e w ⟨rfl, rfl⟩)
    | (go_at_call 77; refine M4.out.mono ?_; rintro e w1 ⟨rfl, hA1⟩)
    | (refine wpList_store_row rfl 117 _ _ rfl w1.heap.size (S bs).toArray rfl rfl 117 (S zeros).toArray (heap_alloc_new w1 _) hi74.out ho74.out (all_oneCell_toArray (one_S _)) ?_)
    | (go_at_call 54; refine (slicesClone_256 w1.heap.size 256 bs _ HL.out (rangeAt_row (setRow_heap _ w1.heap.size _ _ 117 (0, 0) (heap_alloc_new w1 _)))).mono ?_; rintro e w3 ⟨v, rfl, h1, h2, h3⟩))
  go_ret2
  have hA : Adds w ((w1.alloc (.cells (S zeros).toArray 117)).setRow w1.heap.size (S bs).toArray) := (hA1.alloc _).setRow (fun h => absurd hA1.size (by omega)) _
  refine ⟨v, rfl, ?_, h2, hA.trans h3⟩
  rw [HL.out] at h1
  obtain ⟨q1, q2⟩ := h1
  refine ⟨q1, ?_⟩
  rcases q2 with q2 | ⟨g, cap, cur, q2, q3, q4⟩
  · exact .inl q2
  · exact .inr ⟨g, cap, cur, q2, Nat.le_trans hA.size q3, q4⟩

end Go.Proofs.YtokbiekdompaoaaDoor
