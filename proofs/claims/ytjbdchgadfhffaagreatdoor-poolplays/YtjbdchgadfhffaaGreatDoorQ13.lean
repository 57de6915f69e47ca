/- Texts put together: DRef, DRef2. -/
import Derived.Test.YtjbdchgadfhffaaGreatDoorQ12
import Derived.Laws.IdiomStrings
/- The reference's disk in memory, and its small functions: Zero, step, New, Cut. -/
namespace Go.Proofs.YtjbdchgadfhffaaGreatDoor
open Go.RowKit

/-- What is held, as cells. -/
def strs (H : Int → List UInt8) (n : Nat) : List Value := (List.range n).map fun (i : Nat) => Str (H (i : Int))
/-- A waiting write of the reference, as cells. -/
def rcells (x : Int × List UInt8) : List Value := [.int .i64 x.1, Str x.2]
def rflat (W : List (Int × List UInt8)) : List Value := W.flatMap rcells

set_option maxRecDepth 100000 in
theorem strs_len (H : Int → List UInt8) (n : Nat) : (strs H n).length = n := by simp [strs]
set_option maxRecDepth 100000 in
theorem strs_get (H : Int → List UInt8) (n i : Nat) (h : i < n) : (strs H n)[i]? = some (Str (H (i : Int))) := by simp [strs, h]
set_option maxRecDepth 100000 in
theorem strs_set (H : Int → List UInt8) (n i : Nat) (bs : List UInt8) : (strs H n).set i (Str bs) = strs (upd H (i : Int) bs) n := by
  apply List.ext_getElem?
  intro j
  rw [List.getElem?_set]
  by_cases hj : j < n
  · rw [strs_get _ _ _ hj, strs_get _ _ _ hj, strs_len]
    by_cases e : i = j
    · subst e; simp [hj, upd]
    · rw [if_neg e, upd, if_neg (by omega)]
  · rw [List.getElem?_eq_none (by rw [strs_len]; omega), List.getElem?_eq_none (by rw [strs_len]; omega), strs_len]
    split
    · rw [if_neg (by omega)]
    · rfl
theorem rflat_len : ∀ (W : List (Int × List UInt8)), (rflat W).length = W.length * 2
  | [] => rfl
  | x :: W => by
    have := rflat_len W
    simp only [rflat, List.flatMap_cons, List.length_append, List.length_cons] at this ⊢
    rw [this]; simp [rcells]; omega
theorem rflat_get : ∀ (W : List (Int × List UInt8)) (k : Nat) (hk : k < W.length) (j : Nat), j < 2 → (rflat W)[k * 2 + j]? = (rcells W[k])[j]?
  | [], k, hk, _, _ => absurd hk (by simp)
  | x :: W, 0, _, j, hj => by
    simp only [rflat, List.flatMap_cons, Nat.zero_mul, Nat.zero_add, List.getElem_cons_zero]
    rw [List.getElem?_append_left (by simp [rcells]; exact hj)]
  | x :: W, k + 1, hk, j, hj => by
    have ih := rflat_get W k (by simpa using hk) j hj
    simp only [rflat, List.flatMap_cons] at ih ⊢
    rw [List.getElem?_append_right (by simp [rcells]; omega), show (rcells x).length = 2 from rfl, show (k + 1) * 2 + j - 2 = k * 2 + j by omega, ih, List.getElem_cons_succ]
set_option maxRecDepth 100000 in
theorem rflat_snoc (W : List (Int × List UInt8)) (x : Int × List UInt8) : rflat (W ++ [x]) = rflat W ++ rcells x := by simp [rflat]

/-- At p lies a disk of the reference in the state D. -/
structure IsRef (w : World) (B p : Nat) (hv wv : Value) (D : dSt) : Prop where
  box : w.heap[p]? = some (.cells #[hv, wv, .int .i64 D.steps, .int .i64 D.left] 52 (0, 0))
  held : w.ownsRow B 9 1 hv D.size.toNat (strs D.H D.size.toNat)
  wait : w.ownsRow B 120 2 wv D.W.length (rflat D.W)
  places : ∀ x ∈ D.W, 0 ≤ x.1 ∧ x.1 < D.size
  low : B ≤ p
  size : 0 < D.size ∧ D.size ≤ 4096
  good : ∀ k, (D.H k).length = 256
  goodW : ∀ x ∈ D.W, x.2.length = 256

set_option maxRecDepth 100000 in
theorem own_kept {w w' : World} {T : Nat → Prop} {B : Nat} {e : TypeId} {size : Nat} {v : Value} {n : Nat} {xs : List Value} (h : w.ownsRow B e size v n xs) (ht : Touch T w w') (hn : ∀ k, v.ownBlock = some k → ¬ T k) : w'.ownsRow B e size v n xs := by
  refine ⟨h.1, ?_⟩
  rcases h.2 with hh | ⟨g, cap, cur, rfl, hb', hgg, rest⟩
  · exact .inl hh
  · refine .inr ⟨g, cap, cur, rfl, hb', ?_, rest⟩
    rw [ht.block g (Array.getElem?_eq_some_iff.1 hgg).1 (hn g rfl)]; exact hgg
set_option maxRecDepth 100000 in
/-- Two rows of different types are apart. -/
theorem own_type {w : World} {B : Nat} {e : TypeId} {size : Nat} {v : Value} {n : Nat} {xs : List Value} (h : w.ownsRow B e size v n xs) {k : Nat} (hk : v.ownBlock = some k) : ∃ cur, w.heap[k]? = some (.cells cur e (0, 0)) := by
  rcases h.2 with ⟨rfl, _⟩ | ⟨g, cap, cur, rfl, hb', hgg, rest⟩
  · cases hk
  · obtain rfl : g = k := by simpa [Value.ownBlock] using hk
    exact ⟨cur, hgg⟩

set_option maxRecDepth 100000 in
theorem IsRef.kept {w w' : World} {B p : Nat} {hv wv : Value} {D : dSt} (h : IsRef w B p hv wv D) {T : Nat → Prop} (ht : Touch T w w') (hp : ¬ T p) (hh : ∀ k, hv.ownBlock = some k → ¬ T k) (hw : ∀ k, wv.ownBlock = some k → ¬ T k) : IsRef w' B p hv wv D := by
  refine ⟨?_, own_kept h.held ht hh, own_kept h.wait ht hw, h.places, h.low, h.size, h.good, h.goodW⟩
  rw [ht.block p (Array.getElem?_eq_some_iff.1 h.box).1 hp]; exact h.box
theorem IsRef.adds {w w' : World} {B p : Nat} {hv wv : Value} {D : dSt} (h : IsRef w B p hv wv D) (ht : Adds w w') : IsRef w' B p hv wv D := h.kept ht id (fun _ _ => id) (fun _ _ => id)
set_option maxRecDepth 100000 in
/-- Its blocks are apart. -/
theorem IsRef.ne {w : World} {B p : Nat} {hv wv : Value} {D : dSt} (h : IsRef w B p hv wv D) : (∀ k, hv.ownBlock = some k → k ≠ p) ∧ (∀ k, wv.ownBlock = some k → k ≠ p) ∧ (∀ k j, hv.ownBlock = some k → wv.ownBlock = some j → k ≠ j) := by
  refine ⟨fun k hk e => ?_, fun k hk e => ?_, fun k j hk hj e => ?_⟩
  · subst e; obtain ⟨c, hc⟩ := own_type h.held hk; rw [h.box] at hc; simp at hc
  · subst e; obtain ⟨c, hc⟩ := own_type h.wait hk; rw [h.box] at hc; simp at hc
  · subst e; obtain ⟨c, hc⟩ := own_type h.held hk; obtain ⟨c', hc'⟩ := own_type h.wait hj; rw [hc] at hc'; simp at hc'
set_option maxRecDepth 100000 in
/-- A block of another kind is none of its. -/
theorem IsRef.apart {w : World} {B p : Nat} {hv wv : Value} {D : dSt} (h : IsRef w B p hv wv D) {k : Nat} {o : Obj} (hk : w.heap[k]? = some o) (ho : ∀ c, o ≠ .cells c 52 (0, 0) ∧ o ≠ .cells c 9 (0, 0) ∧ o ≠ .cells c 120 (0, 0)) : k ≠ p ∧ hv.ownBlock ≠ some k ∧ wv.ownBlock ≠ some k := by
  refine ⟨fun e => ?_, fun e => ?_, fun e => ?_⟩
  · subst e; rw [h.box] at hk; exact (ho _).1 (by simpa using hk.symm)
  · obtain ⟨c, hc⟩ := own_type h.held e; rw [hc] at hk; exact (ho _).2.1 (by simpa using hk.symm)
  · obtain ⟨c, hc⟩ := own_type h.wait e; rw [hc] at hk; exact (ho _).2.2 (by simpa using hk.symm)
set_option maxRecDepth 100000 in
/-- The slice of what is held, and where its cells lie. -/
theorem IsRef.heldAt {w : World} {B p : Nat} {hv wv : Value} {D : dSt} (h : IsRef w B p hv wv D) : ∃ g cap, hv = .slice (some ⟨g, 0, none⟩) D.size.toNat cap ∧ D.size.toNat ≤ cap ∧ g < w.heap.size ∧
    (∀ i, i < D.size.toNat → w.cell? ⟨g, i, none⟩ = some (Str (D.H (i : Int)))) ∧ (∀ i, w.frozen? ⟨g, i, none⟩ = false) := by
  have hs := h.size
  rcases h.held.2 with ⟨e, hn⟩ | ⟨g, cap, cur, e, _, hgg, hnc, _⟩
  · omega
  · have hh := h.held
    rw [e] at hh
    refine ⟨g, cap, e, hnc, (Array.getElem?_eq_some_iff.1 hgg).1, fun i hi => ?_, fun i => hh.frozenAt i⟩
    rw [hh.cellAt i (by omega), strs_get _ _ _ hi]
set_option maxRecDepth 100000 in
theorem IsRef.waitAt {w : World} {B p : Nat} {hv wv : Value} {D : dSt} (h : IsRef w B p hv wv D) : ∃ ao cap, wv = .slice ao D.W.length cap ∧ D.W.length ≤ cap ∧
    (0 < D.W.length → ∃ g, ao = some ⟨g, 0, none⟩ ∧ g < w.heap.size ∧ (∀ k (hk : k < D.W.length), w.cell? ⟨g, k * 2, none⟩ = some (.int .i64 D.W[k].1) ∧ w.cell? ⟨g, k * 2 + 1, none⟩ = some (Str D.W[k].2)) ∧ (∀ i, w.frozen? ⟨g, i, none⟩ = false)) := by
  rcases h.wait.2 with ⟨e, hn⟩ | ⟨g, cap, cur, e, _, hgg, hnc, _⟩
  · exact ⟨none, 0, by rw [e, hn], by omega, fun h0 => by omega⟩
  · have hh := h.wait
    rw [e] at hh
    refine ⟨some ⟨g, 0, none⟩, cap, e, hnc, fun _ => ⟨g, rfl, (Array.getElem?_eq_some_iff.1 hgg).1, fun k hk => ⟨?_, ?_⟩, fun i => hh.frozenAt i⟩⟩
    · have := rflat_get D.W k hk 0 (by omega)
      rw [Nat.add_zero] at this
      rw [hh.cellAt (k * 2) (by omega), this]; rfl
    · rw [hh.cellAt (k * 2 + 1) (by omega), rflat_get D.W k hk 1 (by omega)]; rfl

set_option maxRecDepth 100000 in
theorem conv_bytes (w : World) (g cap n : Nat) (bs : List UInt8) (hn : bs.length = n) (h : ∀ j b, bs[j]? = some b → w.cell? ⟨g, j, none⟩ = some (.int .u8 (b.toNat : Int))) : (convert 37 9 (.slice (some ⟨g, 0, none⟩) n cap)).run Tryz.prog w = .ok (Str bs) w := by
  subst hn
  refine run_convert_bytes_back w 37 9 5 ⟨g, 0, none⟩ cap bs Tryz.underlying37 Tryz.underlying5 Tryz.underlying9 (fun j hj => ?_)
  rw [Addr.add_mid, Nat.zero_add]
  exact h j _ (by rw [List.getElem?_eq_getElem hj])

set_option maxRecDepth 100000 in
set_option maxHeartbeats 400000 in
theorem zero_any (w : World) : Calls Tryz.prog 10 #[] w fun e w' => e = .returned (Str zeros) ∧ Adds w w' := by
  have hmk := make256
  have hcv := conv_bytes (w.alloc (.cells (S zeros).toArray 5)) w.heap.size 256 256 zeros length_zeros (fun j b hb => by rw [cellOf (heap_alloc_new w _)]; simp only [List.getElem?_toArray, S_get, hb]; rfl)
  go_enter Tryz.func10, Tryz.ntmps10
  go_wp2
  go_ret
  exact ⟨rfl, (Touch.refl _ w).alloc _⟩

set_option maxRecDepth 100000 in
set_option maxHeartbeats 400000 in
theorem rstep_any (b : Nat) (x0 x1 : Value) (s l : Int) (w : World) (hb : w.heap[b]? = some (.cells #[x0, x1, .int .i64 s, .int .i64 l] 52 (0, 0))) (h0 : 0 ≤ s) (h1 : s < 1000000) (h2 : -1 ≤ l) (h3 : l ≤ 9223372036854775807) :
    Calls Tryz.prog 84 #[.pointer (some ⟨b, 0, none⟩)] w fun e w' => e = .returned (.tuple #[]) ∧ w' = w.setRow b #[x0, x1, .int .i64 (s + 1), .int .i64 (less l)] := by
  have c3 : w.cell? ⟨b, 2, none⟩ = some (.int .i64 s) := cellOf hb 2
  have c4 : w.cell? ⟨b, 3, none⟩ = some (.int .i64 l) := cellOf hb 3
  have f3 : w.frozen? ⟨b, 2, none⟩ = false := frozen_of_row w b 2 _ 52 hb
  have f4 : w.frozen? ⟨b, 3, none⟩ = false := frozen_of_row w b 3 _ 52 hb
  have e1 : w.setCell ⟨b, 2, none⟩ (.int .i64 (s + 1)) = w.setRow b #[x0, x1, .int .i64 (s + 1), .int .i64 l] := setCell_eq_setRow w b 2 _ 52 _ _ hb
  have e2 : (w.setCell ⟨b, 2, none⟩ (.int .i64 (s + 1))).setCell ⟨b, 3, none⟩ (.int .i64 (l - 1)) = w.setRow b #[x0, x1, .int .i64 (s + 1), .int .i64 (l - 1)] := by
    rw [e1, setCell_eq_setRow _ b 3 _ 52 _ _ (setRow_heap w b _ _ 52 _ hb), setRow_setRow]; rfl
  have E1 : Hid (w.setCell ⟨b, 2, none⟩ (.int .i64 (s + 1)) = w.setRow b #[x0, x1, .int .i64 (s + 1), .int .i64 l]) := e1
  have E2 : Hid ((w.setCell ⟨b, 2, none⟩ (.int .i64 (s + 1))).setCell ⟨b, 3, none⟩ (.int .i64 (l - 1)) = w.setRow b #[x0, x1, .int .i64 (s + 1), .int .i64 (l - 1)]) := e2
  clear e1 e2 hb
  by_cases h : 0 < l
  · go_enter Tryz.func84, Tryz.ntmps84
    go_wp2
    go_end0
    exact ⟨rfl, by rw [E2.out, less, if_pos h]⟩
  · go_enter Tryz.func84, Tryz.ntmps84
    go_wp2
    go_end0
    exact ⟨rfl, by rw [E1.out, less, if_neg (by omega)]⟩

set_option maxRecDepth 100000 in
set_option maxHeartbeats 400000 in
theorem rnew_no (n : Int) (w : World) (h : n < 1 ∨ 4096 < n) : Calls Tryz.prog 5 #[.int .i64 n] w fun e w' => e = .returned (.tuple #[.pointer none, .int .i64 2]) ∧ w' = w := by
  by_cases h1 : n < 1
  · go_enter Tryz.func5, Tryz.ntmps5
    go_wp2
    go_ret2
    exact ⟨rfl, rfl⟩
  · have h2 : 4096 < n := by omega
    go_enter Tryz.func5, Tryz.ntmps5
    go_wp2
    go_ret2
    exact ⟨rfl, rfl⟩

/-- What the reference's Cut leaves. -/
def PRCut (w : World) (B p : Nat) (hv wv : Value) (D : dSt) (n : Int) (e : Ending) (w' : World) : Prop := e = .returned (.int .i64 0) ∧ IsRef w' B p hv wv (D.cut n) ∧ Touch (fun k => k = p) w w'

set_option maxRecDepth 100000 in
theorem IsRef.setLeft {w : World} {B p : Nat} {hv wv : Value} {D : dSt} (hd : IsRef w B p hv wv D) (n : Int) : IsRef (w.setCell ⟨p, 3, none⟩ (.int .i64 n)) B p hv wv { D with left := n } := by
  have hT : Touch (fun k => k = p) w (w.setCell ⟨p, 3, none⟩ (.int .i64 n)) := Touch.setCell (T := fun k => k = p) (Touch.refl _ w) (fun _ => rfl) _
  exact ⟨heap_setCell_same w p 3 _ 52 _ hd.box, own_kept hd.held hT hd.ne.1, own_kept hd.wait hT hd.ne.2.1, hd.places, hd.low, hd.size, hd.good, hd.goodW⟩

set_option maxRecDepth 100000 in
set_option maxHeartbeats 400000 in
theorem rcut_bad (p : Nat) (n : Int) (w : World) (hn : n < 0) :
    Calls Tryz.prog 30 #[.pointer (some ⟨p, 0, none⟩), .int .i64 n] w fun e w' => e = .returned (.int .i64 2) ∧ w' = w := by
  go_enter Tryz.func30, Tryz.ntmps30
  go_wp2
  go_ret
  exact ⟨rfl, rfl⟩

set_option maxRecDepth 100000 in
set_option maxHeartbeats 400000 in
theorem rcut_ok (B p : Nat) (hv wv : Value) (D : dSt) (n : Int) (w : World) (hd : IsRef w B p hv wv D) (hn : 0 ≤ n) :
    Calls Tryz.prog 30 #[.pointer (some ⟨p, 0, none⟩), .int .i64 n] w (PRCut w B p hv wv D n) := by
  have hn' : ¬ n < 0 := by omega
  have c4 : w.cell? ⟨p, 3, none⟩ = some (.int .i64 D.left) := cellOf hd.box 3
  have f4 : w.frozen? ⟨p, 3, none⟩ = false := frozen_of_row w p 3 _ 52 hd.box
  have HD := hid hd
  clear hd
  by_cases h : D.left = 0
  · have d3 : (D.left == 0) = true := by simp [h]
    have HH := hid h
    clear h
    go_enter Tryz.func30, Tryz.ntmps30
    go_wp2
    go_ret
    refine ⟨rfl, ?_, Touch.refl _ _⟩
    have : D.cut n = D := by cases D; simp only [dSt.cut]; simp only at HH; rw [if_pos HH.out]; rw [HH.out]
    rw [this]; exact HD.out
  · have d3 : (D.left == 0) = false := by simp [h]
    have HH := hid h
    clear h
    go_enter Tryz.func30, Tryz.ntmps30
    go_wp2
    go_ret
    refine ⟨rfl, ?_, Touch.setCell (T := fun k => k = p) (Touch.refl _ w) (fun _ => rfl) _⟩
    have : D.cut n = { D with left := n } := by simp only [dSt.cut]; rw [if_neg HH.out]
    rw [this]; exact HD.out.setLeft n

end Go.Proofs.YtjbdchgadfhffaaGreatDoor

/- The reference's New and Read. -/
namespace Go.Proofs.YtjbdchgadfhffaaGreatDoor
open Go.RowKit

set_option maxRecDepth 100000 in
theorem info9all : ∃ i, Tryz.prog.info? 9 = some i ∧ i.zero = some (Str []) ∧ i.size = 1 ∧ i.bytes = 16 := by
  have h : (Tryz.prog.info? 9).map (fun i => (i.zero, i.size, i.bytes)) = some (some (Str []), 1, 16) := by kernel_rfl
  cases hq : Tryz.prog.info? 9 with
  | none => rw [hq] at h; cases h
  | some i =>
    rw [hq] at h
    simp only [Option.map_some, Option.some.injEq, Prod.mk.injEq] at h
    exact ⟨i, rfl, h.1, h.2.1, h.2.2⟩

theorem one_str (bs : List UInt8) : ∀ u ∈ [Str bs], u.oneCell' = true := fun u hu => by obtain rfl := List.mem_singleton.1 hu; rfl

set_option maxRecDepth 100000 in
theorem own_some {w : World} {B : Nat} {e : TypeId} {size : Nat} {v : Value} {n : Nat} {xs : List Value} (h : w.ownsRow B e size v (n + 1) xs) : ∃ g cap, v = .slice (some ⟨g, 0, none⟩) (n + 1) cap := by
  rcases h.2 with ⟨_, hn⟩ | ⟨g, cap, cur, rfl, _⟩
  · omega
  · exact ⟨g, cap, rfl⟩

set_option maxRecDepth 100000 in
theorem own_mono {w : World} {B C : Nat} {e : TypeId} {size : Nat} {v : Value} {n : Nat} {xs : List Value} (h : w.ownsRow B e size v n xs) (hb : C ≤ B) : w.ownsRow C e size v n xs := by
  refine ⟨h.1, ?_⟩
  rcases h.2 with hn | ⟨g, cap, cur, e, hb', rest⟩
  · exact .inl hn
  · exact .inr ⟨g, cap, cur, e, by omega, rest⟩

/-- What the reference's New tells, and leaves. -/
def PRNew (w : World) (B : Nat) (n : Int) (e : Ending) (w' : World) : Prop := ∃ p hv, e = .returned (.tuple #[.pointer (some ⟨p, 0, none⟩), .int .i64 0]) ∧ w.heap.size ≤ p ∧ IsRef w' B p hv (.slice none 0 0) (dSt.new n) ∧ Adds w w'

set_option maxRecDepth 100000 in
theorem strs_zero_snoc (k : Nat) : strs (fun _ => zeros) k ++ [Str zeros] = strs (fun _ => zeros) (k + 1) := by simp [strs, List.range_succ]

set_option maxRecDepth 100000 in
set_option maxHeartbeats 1000000 in
theorem rnew_yes (n : Int) (w : World) (B : Nat) (hB : B ≤ w.heap.size) (h1 : 1 ≤ n) (h2 : n ≤ 4096) : Calls Tryz.prog 5 #[.int .i64 n] w (PRNew w B n) := by
  have h1' : ¬ n < 1 := by omega
  have h2' : ¬ 4096 < n := by omega
  obtain ⟨i9, hi9, hz0, hz1, hz2⟩ := info9all
  obtain ⟨m, rfl⟩ : ∃ m : Nat, n = m := ⟨n.toNat, by omega⟩
  go_enter Tryz.func5, Tryz.ntmps5
  go_wp2_with (go_at_call 10; refine (zero_any _).mono ?_; rintro e w1 ⟨rfl, hA1⟩)
  have hAw : Adds w w1 := ((Touch.refl _ w).alloc _).trans hA1
  have hb1 : w1.heap[w.heap.size]? = some (.cells #[.slice none 0 0, .slice none 0 0, .int .i64 0, .int .i64 (-1)] 52 (0, 0)) := by
    rw [hA1.block w.heap.size (by simp) id]; exact heap_alloc_new w _
  have HB1 := hid hb1
  clear hb1 hA1
  go_loopw [6] (fun t wr => ∃ k : Nat, k ≤ m ∧ t = .int .i64 k ∧ ∃ hv, Hid (wr.heap[w.heap.size]? = some (.cells #[hv, .slice none 0 0, .int .i64 0, .int .i64 (-1)] 52 (0, 0)) ∧ wr.ownsRow w.heap.size 9 1 hv k (strs (fun _ => zeros) k) ∧ Adds w wr)) (fun t _ => m - (intOf t).toNat)
  case atStart => exact ⟨0, Nat.zero_le _, rfl, .slice none 0 0, HB1.out, World.ownsRow_nil _ _ _ _, hAw⟩
  case round =>
    obtain ⟨k, hk, rfl, hv, HH⟩ := hrel
    clear HB1 hAw
    by_cases hlt : k < m
    · have c0 : wr.cell? ⟨w.heap.size, 0, none⟩ = some hv := cellOf HH.out.1 0
      have hpl : w.heap.size < wr.heap.size := (Array.getElem?_eq_some_iff.1 HH.out.1).1
      have hne : hv.ownBlock ≠ some w.heap.size := fun e => by
        obtain ⟨c, hc⟩ := own_type HH.out.2.1 e
        rw [HH.out.1] at hc; simp at hc
      have HNE := hid hne
      have HOWN := hid (HH.out.2.1.alloc (.cells #[Str zeros] 9))
      have HKEEP := hid (show ∀ w3 v', (wr.alloc (.cells #[Str zeros] 9)).grownBy w3 hv.ownBlock → w3.heap[w.heap.size]? = some (.cells #[hv, .slice none 0 0, .int .i64 0, .int .i64 (-1)] 52 (0, 0)) ∧ w3.frozen? ⟨w.heap.size, 0, none⟩ = false ∧ (w3.setCell ⟨w.heap.size, 0, none⟩ v').heap[w.heap.size]? = some (.cells #[v', .slice none 0 0, .int .i64 0, .int .i64 (-1)] 52 (0, 0)) from fun w3 v' hg => by
        have e : w3.heap[w.heap.size]? = some (.cells #[hv, .slice none 0 0, .int .i64 0, .int .i64 (-1)] 52 (0, 0)) := by
          rw [hg.block _ (by simp; omega) (Ne.symm HNE.out), Below.heap_alloc _ _ _ hpl]; exact HH.out.1
        exact ⟨e, frozen_of_row w3 _ 0 _ 52 e, heap_setCell_same w3 _ 0 _ 52 v' e⟩)
      have H3 := hid (show k + 1 ≤ maxLen by unfold maxLen; omega)
      have H4 := hid (show (k + 1) * 16 ≤ 140737488355328 by omega)
      have H5 := hid (show w.heap.size ≤ (wr.alloc (.cells #[Str zeros] 9)).heap.size by simp; omega)
      clear hne hpl
      go_wp2_with (at_builtin; refine wpList_append_own _ rfl _ _ 49 rfl w.heap.size 9 i9 (Str []) 1 16 Tryz.underlying49 hi9 hz0 hz1 hz2 rfl (by decide) hv k (strs (fun _ => zeros) k) rfl HOWN.out ⟨wr.heap.size, 0, none⟩ 1 1 [Str zeros] rfl rfl (cell_one_new _ _ _) (one_str _) H3.out H4.out H5.out ?_; intro v' w3 hown' hgrow' _; obtain ⟨g', cap', rfl⟩ := own_some hown'; obtain ⟨HE, HF, HS⟩ := HKEEP.out w3 (.slice (some ⟨g', 0, none⟩) (k + 1) cap') hgrow'; have c3 : w3.cell? ⟨w.heap.size, 0, none⟩ = some hv := cellOf HE 0)
      go_roundw
      case rel =>
        refine ⟨k + 1, by omega, by go_num, _, HS, ?_, ?_⟩
        · rw [strs_zero_snoc] at hown'
          refine own_kept (T := fun j => j = w.heap.size) hown' (Touch.setCell (T := fun j => j = w.heap.size) (Touch.refl _ w3) (fun _ => rfl) _) (fun j hj e => ?_)
          subst e
          obtain ⟨c, hc⟩ := own_type hown' hj
          rw [HE] at hc; simp at hc
        · refine Touch.setCell (T := fun _ => False) (Touch.grown (T := fun _ => False) (HH.out.2.2.alloc _) hgrow' (fun j hj hlt => ?_)) (fun h => absurd h (Nat.lt_irrefl _)) _
          have := (HH.out.2.1.lt j hj).1; omega
      case measure => simp [intOf]; omega
    · obtain rfl : k = m := by omega
      go_wp2
      go_ret2
      refine ⟨w.heap.size, hv, rfl, Nat.le_refl _, ⟨HH.out.1, ?_, World.ownsRow_nil _ _ _ _, fun x hx => (by cases hx), hB, ⟨by show (0 : Int) < k; omega, h2⟩, fun _ => length_zeros, fun x hx => (by cases hx)⟩, HH.out.2.2⟩
      have e : (dSt.new (k : Int)).size.toNat = k := by show Int.toNat (k : Int) = k; omega
      rw [e]
      exact own_mono HH.out.2.1 hB

set_option maxRecDepth 100000 in
set_option maxHeartbeats 400000 in
theorem rread_bad (B p : Nat) (hv wv : Value) (D : dSt) (i : Int) (w : World) (hd : IsRef w B p hv wv D) (hi : ¬ (0 ≤ i ∧ i < D.size)) :
    Calls Tryz.prog 40 #[.pointer (some ⟨p, 0, none⟩), .int .i64 i] w fun e w' => e = .returned (.tuple #[Str [], .int .i64 2]) ∧ w' = w := by
  obtain ⟨g, cap, rfl, hcap, _, _, _⟩ := hd.heldAt
  have hs := hd.size
  have c0 : w.cell? ⟨p, 0, none⟩ = some (.slice (some ⟨g, 0, none⟩) D.size.toNat cap) := cellOf hd.box 0
  have hq : ((D.size.toNat : Nat) : Int) = D.size := by omega
  clear hd
  by_cases h0 : i < 0
  · go_enter Tryz.func40, Tryz.ntmps40
    go_wp2
    go_ret2
    exact ⟨rfl, rfl⟩
  · have h1 : D.size ≤ i := by omega
    have h2 : decide (D.size ≤ i) = true := by simpa using h1
    clear hi
    go_enter Tryz.func40, Tryz.ntmps40
    go_wp2
    go_ret2
    exact ⟨rfl, rfl⟩

set_option maxRecDepth 100000 in
set_option maxHeartbeats 400000 in
theorem rread_off (B p : Nat) (hv wv : Value) (D : dSt) (i : Int) (w : World) (hd : IsRef w B p hv wv D) (hi : 0 ≤ i ∧ i < D.size) (hon : D.left = 0) :
    Calls Tryz.prog 40 #[.pointer (some ⟨p, 0, none⟩), .int .i64 i] w fun e w' => e = .returned (.tuple #[Str [], .int .i64 10]) ∧ w' = w := by
  obtain ⟨g, cap, rfl, hcap, _, _, _⟩ := hd.heldAt
  have hs := hd.size
  have c0 : w.cell? ⟨p, 0, none⟩ = some (.slice (some ⟨g, 0, none⟩) D.size.toNat cap) := cellOf hd.box 0
  have c3 : w.cell? ⟨p, 3, none⟩ = some (.int .i64 D.left) := cellOf hd.box 3
  rw [hon] at c3
  have hq : ((D.size.toNat : Nat) : Int) = D.size := by omega
  have h0 : ¬ i < 0 := by omega
  have h2 : decide (D.size ≤ i) = false := by simp; omega
  clear hd hi
  go_enter Tryz.func40, Tryz.ntmps40
  go_wp2
  go_ret2
  exact ⟨rfl, rfl⟩

set_option maxRecDepth 100000 in
theorem hasOf_snoc (H : Int → List UInt8) (W : List (Int × List UInt8)) (i : Int) (k : Nat) (h : k < W.length) : hasOf H (W.take (k + 1)) i = if W[k].1 = i then W[k].2 else hasOf H (W.take k) i := by
  unfold hasOf
  rw [List.take_add_one, List.getElem?_eq_getElem h, Option.toList_some, List.foldl_append, List.foldl_cons, List.foldl_nil]

set_option maxRecDepth 100000 in
set_option maxHeartbeats 1000000 in
theorem rread_ok (B p : Nat) (hv wv : Value) (D : dSt) (i : Int) (w : World) (hd : IsRef w B p hv wv D) (hl : D.W.length ≤ 1000) (hi : 0 ≤ i ∧ i < D.size) (hon : D.left ≠ 0) :
    Calls Tryz.prog 40 #[.pointer (some ⟨p, 0, none⟩), .int .i64 i] w fun e w' => e = .returned (.tuple #[Str (hasOf D.H D.W i), .int .i64 0]) ∧ w' = w := by
  obtain ⟨g, cap, rfl, hcap, _, hcell, _⟩ := hd.heldAt
  obtain ⟨ao, wcap, rfl, hwcap, hrest⟩ := hd.waitAt
  have hs := hd.size
  obtain ⟨m, rfl⟩ : ∃ m : Nat, i = m := ⟨i.toNat, by omega⟩
  have c0 : w.cell? ⟨p, 0, none⟩ = some (.slice (some ⟨g, 0, none⟩) D.size.toNat cap) := cellOf hd.box 0
  have c1 : w.cell? ⟨p, 1, none⟩ = some (.slice ao D.W.length wcap) := cellOf hd.box 1
  have c3 : w.cell? ⟨p, 3, none⟩ = some (.int .i64 D.left) := cellOf hd.box 3
  have hm : m < D.size.toNat := by have h9 := hi.2; clear hcell hrest hd c0 c1 c3; omega
  have cm : w.cell? ⟨g, m, none⟩ = some (Str (D.H (m : Int))) := hcell m hm
  have hq : ((D.size.toNat : Nat) : Int) = D.size := Int.toNat_of_nonneg (by have := hs.1; clear hcell hrest hd c0 c1 c3 cm; omega)
  have h0 : ¬ (m : Int) < 0 := by omega
  have h2 : decide (D.size ≤ (m : Int)) = false := by simp; omega
  have h3 : (D.left == 0) = false := by simp [hon]
  have HR := hid hrest
  clear hd hi hon hrest hcell
  go_enter Tryz.func40, Tryz.ntmps40
  go_wp2
  go_loop [6, 7] (fun s t => ∃ k : Nat, k ≤ D.W.length ∧ t = .int .i64 k ∧ s = Str (hasOf D.H (D.W.take k) m)) (fun _ t => D.W.length - (intOf t).toNat)
  case atStart => exact ⟨0, Nat.zero_le _, rfl, rfl⟩
  case round =>
    obtain ⟨k, hk, rfl, rfl⟩ := hrel
    by_cases hlt : k < D.W.length
    · obtain ⟨gw, rfl, _, hc, _⟩ := HR.out (by omega)
      have hc0 := (hc k hlt).1
      have hc1 := (hc k hlt).2
      have hsn := hid (hasOf_snoc D.H D.W m k hlt)
      clear hc HR
      by_cases he : D.W[k].1 = (m : Int)
      · have hb : (D.W[k].1 == (m : Int)) = true := by simp [he]
        have HE := hid he
        clear he
        go_wp2
        exact ⟨⟨k + 1, by omega, by go_num, by rw [hsn.out, if_pos HE.out]⟩, by simp [intOf]; omega⟩
      · have hb : (D.W[k].1 == (m : Int)) = false := by simp [he]
        have HE := hid he
        clear he
        go_wp2
        exact ⟨⟨k + 1, by omega, by go_num, by rw [hsn.out, if_neg HE.out]⟩, by simp [intOf]; omega⟩
    · obtain rfl : k = D.W.length := by omega
      go_wp2
      go_ret2
      exact ⟨rfl, rfl⟩

end Go.Proofs.YtjbdchgadfhffaaGreatDoor
