/- Texts put together: DRef, DRef2, DRef3, DRef4, DSpFacts, DRef5, DSynFacts, DRef6, DRO. -/
import Derived.Test.YtjlennpoaefllaaGreatDoorQ16
import Derived.Laws.IdiomStrings
import Derived.Deep.QuietTactic
import Derived.BigQuiet
import Derived.Maps.AppendAt
import Derived.Deep.RegionHeld3
import Derived.Laws.Concat
import Derived.Laws.Slices
import Derived.Test.YtjlennpoaefllaaGreatDoorQ15
import Derived.Deep.DeepCutAuto
import Derived.Deep.LoopGhost
import Derived.Deep.Light
/- The reference's disk in memory, and its small functions: Zero, step, New, Cut. -/
namespace Go.Proofs.YtjlennpoaefllaaGreatDoor
open Go.RowKit

/-- What is held, as cells. -/
def strs (H : Int → List UInt8) (n : Nat) : List Value := (List.range n).map fun (i : Nat) => Str (H (i : Int))
/-- A waiting write of the reference, as cells. -/
def rcells (x : Int × List UInt8) : List Value := [.int .i64 x.1, Str x.2]
def rflat (W : List (Int × List UInt8)) : List Value := W.flatMap rcells

set_option maxRecDepth 100000 in
theorem strs_len (H : Int → List UInt8) (n : Nat) : (strs H n).length = n := by simp [strs]
set_option maxRecDepth 100000 in
theorem strs_get (H : Int → List UInt8) (n i : Nat) (h : i < n) : (strs H n)[i]? = some (Str (H (i : Int))) := by simp [strs, h]
set_option maxRecDepth 100000 in
theorem strs_set (H : Int → List UInt8) (n i : Nat) (bs : List UInt8) : (strs H n).set i (Str bs) = strs (upd H (i : Int) bs) n := by
  apply List.ext_getElem?
  intro j
  rw [List.getElem?_set]
  by_cases hj : j < n
  · rw [strs_get _ _ _ hj, strs_get _ _ _ hj, strs_len]
    by_cases e : i = j
    · subst e; simp [hj, upd]
    · rw [if_neg e, upd, if_neg (by omega)]
  · rw [List.getElem?_eq_none (by rw [strs_len]; omega), List.getElem?_eq_none (by rw [strs_len]; omega), strs_len]
    split
    · rw [if_neg (by omega)]
    · rfl
theorem rflat_get : ∀ (W : List (Int × List UInt8)) (k : Nat) (hk : k < W.length) (j : Nat), j < 2 → (rflat W)[k * 2 + j]? = (rcells W[k])[j]?
  | [], k, hk, _, _ => absurd hk (by simp)
  | x :: W, 0, _, j, hj => by
    simp only [rflat, List.flatMap_cons, Nat.zero_mul, Nat.zero_add, List.getElem_cons_zero]
    rw [List.getElem?_append_left (by simp [rcells]; exact hj)]
  | x :: W, k + 1, hk, j, hj => by
    have ih := rflat_get W k (by simpa using hk) j hj
    simp only [rflat, List.flatMap_cons] at ih ⊢
    rw [List.getElem?_append_right (by simp [rcells]; omega), show (rcells x).length = 2 from rfl, show (k + 1) * 2 + j - 2 = k * 2 + j by omega, ih, List.getElem_cons_succ]
set_option maxRecDepth 100000 in
theorem rflat_snoc (W : List (Int × List UInt8)) (x : Int × List UInt8) : rflat (W ++ [x]) = rflat W ++ rcells x := by simp [rflat]

/-- At p lies a disk of the reference in the state D. -/
structure IsRef (w : World) (B p : Nat) (hv wv : Value) (D : dSt) : Prop where
  box : w.heap[p]? = some (.cells #[hv, wv, .int .i64 D.steps, .int .i64 D.left] 84 (0, 0))
  held : w.ownsRow B 9 1 hv D.size.toNat (strs D.H D.size.toNat)
  wait : w.ownsRow B 173 2 wv D.W.length (rflat D.W)
  places : ∀ x ∈ D.W, 0 ≤ x.1 ∧ x.1 < D.size
  low : B ≤ p
  size : 0 < D.size ∧ D.size ≤ 4096
  good : ∀ k, (D.H k).length = 256
  goodW : ∀ x ∈ D.W, x.2.length = 256

set_option maxRecDepth 100000 in
theorem own_kept {w w' : World} {T : Nat → Prop} {B : Nat} {e : TypeId} {size : Nat} {v : Value} {n : Nat} {xs : List Value} (h : w.ownsRow B e size v n xs) (ht : Touch T w w') (hn : ∀ k, v.ownBlock = some k → ¬ T k) : w'.ownsRow B e size v n xs := by
  refine ⟨h.1, ?_⟩
  rcases h.2 with hh | ⟨g, cap, cur, rfl, hb', hgg, rest⟩
  · exact .inl hh
  · refine .inr ⟨g, cap, cur, rfl, hb', ?_, rest⟩
    rw [ht.block g (Array.getElem?_eq_some_iff.1 hgg).1 (hn g rfl)]; exact hgg
set_option maxRecDepth 100000 in
theorem IsRef.kept {w w' : World} {B p : Nat} {hv wv : Value} {D : dSt} (h : IsRef w B p hv wv D) {T : Nat → Prop} (ht : Touch T w w') (hp : ¬ T p) (hh : ∀ k, hv.ownBlock = some k → ¬ T k) (hw : ∀ k, wv.ownBlock = some k → ¬ T k) : IsRef w' B p hv wv D := by
  refine ⟨?_, own_kept h.held ht hh, own_kept h.wait ht hw, h.places, h.low, h.size, h.good, h.goodW⟩
  rw [ht.block p (Array.getElem?_eq_some_iff.1 h.box).1 hp]; exact h.box
theorem IsRef.adds {w w' : World} {B p : Nat} {hv wv : Value} {D : dSt} (h : IsRef w B p hv wv D) (ht : Adds w w') : IsRef w' B p hv wv D := h.kept ht id (fun _ _ => id) (fun _ _ => id)
set_option maxRecDepth 100000 in
/-- Its blocks are apart. -/
theorem IsRef.ne {w : World} {B p : Nat} {hv wv : Value} {D : dSt} (h : IsRef w B p hv wv D) : (∀ k, hv.ownBlock = some k → k ≠ p) ∧ (∀ k, wv.ownBlock = some k → k ≠ p) ∧ (∀ k j, hv.ownBlock = some k → wv.ownBlock = some j → k ≠ j) := by
  refine ⟨fun k hk e => ?_, fun k hk e => ?_, fun k j hk hj e => ?_⟩
  · subst e; obtain ⟨c, hc⟩ := own_type h.held hk; rw [h.box] at hc; simp at hc
  · subst e; obtain ⟨c, hc⟩ := own_type h.wait hk; rw [h.box] at hc; simp at hc
  · subst e; obtain ⟨c, hc⟩ := own_type h.held hk; obtain ⟨c', hc'⟩ := own_type h.wait hj; rw [hc] at hc'; simp at hc'
set_option maxRecDepth 100000 in
/-- A block of another kind is none of its. -/
theorem IsRef.apart {w : World} {B p : Nat} {hv wv : Value} {D : dSt} (h : IsRef w B p hv wv D) {k : Nat} {o : Obj} (hk : w.heap[k]? = some o) (ho : ∀ c, o ≠ .cells c 84 (0, 0) ∧ o ≠ .cells c 9 (0, 0) ∧ o ≠ .cells c 173 (0, 0)) : k ≠ p ∧ hv.ownBlock ≠ some k ∧ wv.ownBlock ≠ some k := by
  refine ⟨fun e => ?_, fun e => ?_, fun e => ?_⟩
  · subst e; rw [h.box] at hk; exact (ho _).1 (by simpa using hk.symm)
  · obtain ⟨c, hc⟩ := own_type h.held e; rw [hc] at hk; exact (ho _).2.1 (by simpa using hk.symm)
  · obtain ⟨c, hc⟩ := own_type h.wait e; rw [hc] at hk; exact (ho _).2.2 (by simpa using hk.symm)
set_option maxRecDepth 100000 in
/-- The slice of what is held, and where its cells lie. -/
theorem IsRef.heldAt {w : World} {B p : Nat} {hv wv : Value} {D : dSt} (h : IsRef w B p hv wv D) : ∃ g cap, hv = .slice (some ⟨g, 0, none⟩) D.size.toNat cap ∧ D.size.toNat ≤ cap ∧ g < w.heap.size ∧
    (∀ i, i < D.size.toNat → w.cell? ⟨g, i, none⟩ = some (Str (D.H (i : Int)))) ∧ (∀ i, w.frozen? ⟨g, i, none⟩ = false) := by
  have hs := h.size
  rcases h.held.2 with ⟨e, hn⟩ | ⟨g, cap, cur, e, _, hgg, hnc, _⟩
  · omega
  · have hh := h.held
    rw [e] at hh
    refine ⟨g, cap, e, hnc, (Array.getElem?_eq_some_iff.1 hgg).1, fun i hi => ?_, fun i => hh.frozenAt i⟩
    rw [hh.cellAt i (by omega), strs_get _ _ _ hi]
set_option maxRecDepth 100000 in
theorem IsRef.waitAt {w : World} {B p : Nat} {hv wv : Value} {D : dSt} (h : IsRef w B p hv wv D) : ∃ ao cap, wv = .slice ao D.W.length cap ∧ D.W.length ≤ cap ∧
    (0 < D.W.length → ∃ g, ao = some ⟨g, 0, none⟩ ∧ g < w.heap.size ∧ (∀ k (hk : k < D.W.length), w.cell? ⟨g, k * 2, none⟩ = some (.int .i64 D.W[k].1) ∧ w.cell? ⟨g, k * 2 + 1, none⟩ = some (Str D.W[k].2)) ∧ (∀ i, w.frozen? ⟨g, i, none⟩ = false)) := by
  rcases h.wait.2 with ⟨e, hn⟩ | ⟨g, cap, cur, e, _, hgg, hnc, _⟩
  · exact ⟨none, 0, by rw [e, hn], by omega, fun h0 => by omega⟩
  · have hh := h.wait
    rw [e] at hh
    refine ⟨some ⟨g, 0, none⟩, cap, e, hnc, fun _ => ⟨g, rfl, (Array.getElem?_eq_some_iff.1 hgg).1, fun k hk => ⟨?_, ?_⟩, fun i => hh.frozenAt i⟩⟩
    · have := rflat_get D.W k hk 0 (by omega)
      rw [Nat.add_zero] at this
      rw [hh.cellAt (k * 2) (by omega), this]; rfl
    · rw [hh.cellAt (k * 2 + 1) (by omega), rflat_get D.W k hk 1 (by omega)]; rfl

set_option maxRecDepth 100000 in
theorem conv_bytes (w : World) (g cap n : Nat) (bs : List UInt8) (hn : bs.length = n) (h : ∀ j b, bs[j]? = some b → w.cell? ⟨g, j, none⟩ = some (.int .u8 (b.toNat : Int))) : (convert 43 9 (.slice (some ⟨g, 0, none⟩) n cap)).run Tryz.prog w = .ok (Str bs) w := by
  subst hn
  refine run_convert_bytes_back w 43 9 5 ⟨g, 0, none⟩ cap bs Tryz.underlying43 Tryz.underlying5 Tryz.underlying9 (fun j hj => ?_)
  rw [Addr.add_mid, Nat.zero_add]
  exact h j _ (by rw [List.getElem?_eq_getElem hj])

set_option maxRecDepth 100000 in
set_option maxHeartbeats 400000 in
theorem zero_any (w : World) : Calls Tryz.prog 33 #[] w fun e w' => e = .returned (Str zeros) ∧ Adds w w' := by
  have hmk := make256
  have hcv := conv_bytes (w.alloc (.cells (S zeros).toArray 5)) w.heap.size 256 256 zeros length_zeros (fun j b hb => by rw [cellOf (heap_alloc_new w _)]; simp only [List.getElem?_toArray, S_get, hb]; rfl)
  go_enter Tryz.func33, Tryz.ntmps33
  go_wp2
  go_ret
  exact ⟨rfl, (Touch.refl _ w).alloc _⟩

set_option maxRecDepth 100000 in
set_option maxHeartbeats 400000 in
theorem rstep_any (b : Nat) (x0 x1 : Value) (s l : Int) (w : World) (hb : w.heap[b]? = some (.cells #[x0, x1, .int .i64 s, .int .i64 l] 84 (0, 0))) (h0 : 0 ≤ s) (h1 : s < 1000000) (h2 : -1 ≤ l) (h3 : l ≤ 9223372036854775807) :
    Calls Tryz.prog 126 #[.pointer (some ⟨b, 0, none⟩)] w fun e w' => e = .returned (.tuple #[]) ∧ w' = w.setRow b #[x0, x1, .int .i64 (s + 1), .int .i64 (less l)] := by
  have c3 : w.cell? ⟨b, 2, none⟩ = some (.int .i64 s) := cellOf hb 2
  have c4 : w.cell? ⟨b, 3, none⟩ = some (.int .i64 l) := cellOf hb 3
  have f3 : w.frozen? ⟨b, 2, none⟩ = false := frozen_of_row w b 2 _ 84 hb
  have f4 : w.frozen? ⟨b, 3, none⟩ = false := frozen_of_row w b 3 _ 84 hb
  have e1 : w.setCell ⟨b, 2, none⟩ (.int .i64 (s + 1)) = w.setRow b #[x0, x1, .int .i64 (s + 1), .int .i64 l] := setCell_eq_setRow w b 2 _ 84 _ _ hb
  have e2 : (w.setCell ⟨b, 2, none⟩ (.int .i64 (s + 1))).setCell ⟨b, 3, none⟩ (.int .i64 (l - 1)) = w.setRow b #[x0, x1, .int .i64 (s + 1), .int .i64 (l - 1)] := by
    rw [e1, setCell_eq_setRow _ b 3 _ 84 _ _ (setRow_heap w b _ _ 84 _ hb), setRow_setRow]; rfl
  have E1 : Hid (w.setCell ⟨b, 2, none⟩ (.int .i64 (s + 1)) = w.setRow b #[x0, x1, .int .i64 (s + 1), .int .i64 l]) := e1
  have E2 : Hid ((w.setCell ⟨b, 2, none⟩ (.int .i64 (s + 1))).setCell ⟨b, 3, none⟩ (.int .i64 (l - 1)) = w.setRow b #[x0, x1, .int .i64 (s + 1), .int .i64 (l - 1)]) := e2
  clear e1 e2 hb
  by_cases h : 0 < l
  · go_enter Tryz.func126, Tryz.ntmps126
    go_wp2
    go_end0
    exact ⟨rfl, by rw [E2.out, less, if_pos h]⟩
  · go_enter Tryz.func126, Tryz.ntmps126
    go_wp2
    go_end0
    exact ⟨rfl, by rw [E1.out, less, if_neg (by omega)]⟩

/-- What the reference's Cut leaves. -/
def PRCut (w : World) (B p : Nat) (hv wv : Value) (D : dSt) (n : Int) (e : Ending) (w' : World) : Prop := e = .returned (.int .i64 0) ∧ IsRef w' B p hv wv (D.cut n) ∧ Touch (fun k => k = p) w w'

set_option maxRecDepth 100000 in
theorem IsRef.setLeft {w : World} {B p : Nat} {hv wv : Value} {D : dSt} (hd : IsRef w B p hv wv D) (n : Int) : IsRef (w.setCell ⟨p, 3, none⟩ (.int .i64 n)) B p hv wv { D with left := n } := by
  have hT : Touch (fun k => k = p) w (w.setCell ⟨p, 3, none⟩ (.int .i64 n)) := Touch.setCell (T := fun k => k = p) (Touch.refl _ w) (fun _ => rfl) _
  exact ⟨heap_setCell_same w p 3 _ 84 _ hd.box, own_kept hd.held hT hd.ne.1, own_kept hd.wait hT hd.ne.2.1, hd.places, hd.low, hd.size, hd.good, hd.goodW⟩

set_option maxRecDepth 100000 in
set_option maxHeartbeats 400000 in
theorem rcut_bad (p : Nat) (n : Int) (w : World) (hn : n < 0) :
    Calls Tryz.prog 51 #[.pointer (some ⟨p, 0, none⟩), .int .i64 n] w fun e w' => e = .returned (.int .i64 2) ∧ w' = w := by
  go_enter Tryz.func51, Tryz.ntmps51
  go_wp2
  go_ret
  exact ⟨rfl, rfl⟩

set_option maxRecDepth 100000 in
set_option maxHeartbeats 400000 in
theorem rcut_ok (B p : Nat) (hv wv : Value) (D : dSt) (n : Int) (w : World) (hd : IsRef w B p hv wv D) (hn : 0 ≤ n) :
    Calls Tryz.prog 51 #[.pointer (some ⟨p, 0, none⟩), .int .i64 n] w (PRCut w B p hv wv D n) := by
  have hn' : ¬ n < 0 := by omega
  have c4 : w.cell? ⟨p, 3, none⟩ = some (.int .i64 D.left) := cellOf hd.box 3
  have f4 : w.frozen? ⟨p, 3, none⟩ = false := frozen_of_row w p 3 _ 84 hd.box
  have HD := hid hd
  clear hd
  by_cases h : D.left = 0
  · have d3 : (D.left == 0) = true := by simp [h]
    have HH := hid h
    clear h
    go_enter Tryz.func51, Tryz.ntmps51
    go_wp2
    go_ret
    refine ⟨rfl, ?_, Touch.refl _ _⟩
    have : D.cut n = D := by cases D; simp only [dSt.cut]; simp only at HH; rw [if_pos HH.out]; rw [HH.out]
    rw [this]; exact HD.out
  · have d3 : (D.left == 0) = false := by simp [h]
    have HH := hid h
    clear h
    go_enter Tryz.func51, Tryz.ntmps51
    go_wp2
    go_ret
    refine ⟨rfl, ?_, Touch.setCell (T := fun k => k = p) (Touch.refl _ w) (fun _ => rfl) _⟩
    have : D.cut n = { D with left := n } := by simp only [dSt.cut]; rw [if_neg HH.out]
    rw [this]; exact HD.out.setLeft n

end Go.Proofs.YtjlennpoaefllaaGreatDoor

/- The reference's New and Read. -/
namespace Go.Proofs.YtjlennpoaefllaaGreatDoor
open Go.RowKit

set_option maxRecDepth 100000 in
theorem info9all : ∃ i, Tryz.prog.info? 9 = some i ∧ i.zero = some (Str []) ∧ i.size = 1 ∧ i.bytes = 16 := by
  have h : (Tryz.prog.info? 9).map (fun i => (i.zero, i.size, i.bytes)) = some (some (Str []), 1, 16) := by kernel_rfl
  cases hq : Tryz.prog.info? 9 with
  | none => rw [hq] at h; cases h
  | some i =>
    rw [hq] at h
    simp only [Option.map_some, Option.some.injEq, Prod.mk.injEq] at h
    exact ⟨i, rfl, h.1, h.2.1, h.2.2⟩

theorem one_str (bs : List UInt8) : ∀ u ∈ [Str bs], u.oneCell' = true := fun u hu => by obtain rfl := List.mem_singleton.1 hu; rfl

set_option maxRecDepth 100000 in
theorem own_some {w : World} {B : Nat} {e : TypeId} {size : Nat} {v : Value} {n : Nat} {xs : List Value} (h : w.ownsRow B e size v (n + 1) xs) : ∃ g cap, v = .slice (some ⟨g, 0, none⟩) (n + 1) cap := by
  rcases h.2 with ⟨_, hn⟩ | ⟨g, cap, cur, rfl, _⟩
  · omega
  · exact ⟨g, cap, rfl⟩

set_option maxRecDepth 100000 in
theorem own_mono {w : World} {B C : Nat} {e : TypeId} {size : Nat} {v : Value} {n : Nat} {xs : List Value} (h : w.ownsRow B e size v n xs) (hb : C ≤ B) : w.ownsRow C e size v n xs := by
  refine ⟨h.1, ?_⟩
  rcases h.2 with hn | ⟨g, cap, cur, e, hb', rest⟩
  · exact .inl hn
  · exact .inr ⟨g, cap, cur, e, by omega, rest⟩

/-- What the reference's New tells, and leaves. -/
def PRNew (w : World) (B : Nat) (n : Int) (e : Ending) (w' : World) : Prop := ∃ p hv, e = .returned (.tuple #[.pointer (some ⟨p, 0, none⟩), .int .i64 0]) ∧ w.heap.size ≤ p ∧ IsRef w' B p hv (.slice none 0 0) (dSt.new n) ∧ Adds w w'

set_option maxRecDepth 100000 in
theorem strs_zero_snoc (k : Nat) : strs (fun _ => zeros) k ++ [Str zeros] = strs (fun _ => zeros) (k + 1) := by simp [strs, List.range_succ]

set_option maxRecDepth 100000 in
set_option maxHeartbeats 1000000 in
theorem rnew_yes (n : Int) (w : World) (B : Nat) (hB : B ≤ w.heap.size) (h1 : 1 ≤ n) (h2 : n ≤ 4096) : Calls Tryz.prog 10 #[.int .i64 n] w (PRNew w B n) := by
  have h1' : ¬ n < 1 := by omega
  have h2' : ¬ 4096 < n := by omega
  obtain ⟨i9, hi9, hz0, hz1, hz2⟩ := info9all
  obtain ⟨m, rfl⟩ : ∃ m : Nat, n = m := ⟨n.toNat, by omega⟩
  go_enter Tryz.func10, Tryz.ntmps10
  go_wp2_with (go_at_call 33; refine (zero_any _).mono ?_; rintro e w1 ⟨rfl, hA1⟩)
  have hAw : Adds w w1 := ((Touch.refl _ w).alloc _).trans hA1
  have hb1 : w1.heap[w.heap.size]? = some (.cells #[.slice none 0 0, .slice none 0 0, .int .i64 0, .int .i64 (-1)] 84 (0, 0)) := by
    rw [hA1.block w.heap.size (by simp) id]; exact heap_alloc_new w _
  have HB1 := hid hb1
  clear hb1 hA1
  go_loopw [6] (fun t wr => ∃ k : Nat, k ≤ m ∧ t = .int .i64 k ∧ ∃ hv, Hid (wr.heap[w.heap.size]? = some (.cells #[hv, .slice none 0 0, .int .i64 0, .int .i64 (-1)] 84 (0, 0)) ∧ wr.ownsRow w.heap.size 9 1 hv k (strs (fun _ => zeros) k) ∧ Adds w wr)) (fun t _ => m - (intOf t).toNat)
  case atStart => exact ⟨0, Nat.zero_le _, rfl, .slice none 0 0, HB1.out, World.ownsRow_nil _ _ _ _, hAw⟩
  case round =>
    obtain ⟨k, hk, rfl, hv, HH⟩ := hrel
    clear HB1 hAw
    by_cases hlt : k < m
    · have c0 : wr.cell? ⟨w.heap.size, 0, none⟩ = some hv := cellOf HH.out.1 0
      have hpl : w.heap.size < wr.heap.size := (Array.getElem?_eq_some_iff.1 HH.out.1).1
      have hne : hv.ownBlock ≠ some w.heap.size := fun e => by
        obtain ⟨c, hc⟩ := own_type HH.out.2.1 e
        rw [HH.out.1] at hc; simp at hc
      have HNE := hid hne
      have HOWN := hid (HH.out.2.1.alloc (.cells #[Str zeros] 9))
      have HKEEP := hid (show ∀ w3 v', (wr.alloc (.cells #[Str zeros] 9)).grownBy w3 hv.ownBlock → w3.heap[w.heap.size]? = some (.cells #[hv, .slice none 0 0, .int .i64 0, .int .i64 (-1)] 84 (0, 0)) ∧ w3.frozen? ⟨w.heap.size, 0, none⟩ = false ∧ (w3.setCell ⟨w.heap.size, 0, none⟩ v').heap[w.heap.size]? = some (.cells #[v', .slice none 0 0, .int .i64 0, .int .i64 (-1)] 84 (0, 0)) from fun w3 v' hg => by
        have e : w3.heap[w.heap.size]? = some (.cells #[hv, .slice none 0 0, .int .i64 0, .int .i64 (-1)] 84 (0, 0)) := by
          rw [hg.block _ (by simp; omega) (Ne.symm HNE.out), Below.heap_alloc _ _ _ hpl]; exact HH.out.1
        exact ⟨e, frozen_of_row w3 _ 0 _ 84 e, heap_setCell_same w3 _ 0 _ 84 v' e⟩)
      have H3 := hid (show k + 1 ≤ maxLen by unfold maxLen; omega)
      have H4 := hid (show (k + 1) * 16 ≤ 140737488355328 by omega)
      have H5 := hid (show w.heap.size ≤ (wr.alloc (.cells #[Str zeros] 9)).heap.size by simp; omega)
      clear hne hpl
      go_wp2_with (at_builtin; refine wpList_append_own _ rfl _ _ 69 rfl w.heap.size 9 i9 (Str []) 1 16 Tryz.underlying69 hi9 hz0 hz1 hz2 rfl (by decide) hv k (strs (fun _ => zeros) k) rfl HOWN.out ⟨wr.heap.size, 0, none⟩ 1 1 [Str zeros] rfl rfl (cell_one_new _ _ _) (one_str _) H3.out H4.out H5.out ?_; intro v' w3 hown' hgrow' _; obtain ⟨g', cap', rfl⟩ := own_some hown'; obtain ⟨HE, HF, HS⟩ := HKEEP.out w3 (.slice (some ⟨g', 0, none⟩) (k + 1) cap') hgrow'; have c3 : w3.cell? ⟨w.heap.size, 0, none⟩ = some hv := cellOf HE 0)
      go_roundw
      case rel =>
        refine ⟨k + 1, by omega, by go_num, _, HS, ?_, ?_⟩
        · rw [strs_zero_snoc] at hown'
          refine own_kept (T := fun j => j = w.heap.size) hown' (Touch.setCell (T := fun j => j = w.heap.size) (Touch.refl _ w3) (fun _ => rfl) _) (fun j hj e => ?_)
          subst e
          obtain ⟨c, hc⟩ := own_type hown' hj
          rw [HE] at hc; simp at hc
        · refine Touch.setCell (T := fun _ => False) (Touch.grown (T := fun _ => False) (HH.out.2.2.alloc _) hgrow' (fun j hj hlt => ?_)) (fun h => absurd h (Nat.lt_irrefl _)) _
          have := (HH.out.2.1.lt j hj).1; omega
      case measure => simp [intOf]; omega
    · obtain rfl : k = m := by omega
      go_wp2
      go_ret2
      refine ⟨w.heap.size, hv, rfl, Nat.le_refl _, ⟨HH.out.1, ?_, World.ownsRow_nil _ _ _ _, fun x hx => (by cases hx), hB, ⟨by show (0 : Int) < k; omega, h2⟩, fun _ => length_zeros, fun x hx => (by cases hx)⟩, HH.out.2.2⟩
      have e : (dSt.new (k : Int)).size.toNat = k := by show Int.toNat (k : Int) = k; omega
      rw [e]
      exact own_mono HH.out.2.1 hB

set_option maxRecDepth 100000 in
set_option maxHeartbeats 400000 in
theorem rread_off (B p : Nat) (hv wv : Value) (D : dSt) (i : Int) (w : World) (hd : IsRef w B p hv wv D) (hi : 0 ≤ i ∧ i < D.size) (hon : D.left = 0) :
    Calls Tryz.prog 133 #[.pointer (some ⟨p, 0, none⟩), .int .i64 i] w fun e w' => e = .returned (.tuple #[Str [], .int .i64 10]) ∧ w' = w := by
  obtain ⟨g, cap, rfl, hcap, _, _, _⟩ := hd.heldAt
  have hs := hd.size
  have c0 : w.cell? ⟨p, 0, none⟩ = some (.slice (some ⟨g, 0, none⟩) D.size.toNat cap) := cellOf hd.box 0
  have c3 : w.cell? ⟨p, 3, none⟩ = some (.int .i64 D.left) := cellOf hd.box 3
  rw [hon] at c3
  have hq : ((D.size.toNat : Nat) : Int) = D.size := by omega
  have h0 : ¬ i < 0 := by omega
  have h2 : decide (D.size ≤ i) = false := by simp; omega
  clear hd hi
  go_enter Tryz.func133, Tryz.ntmps133
  go_wp2
  go_ret2
  exact ⟨rfl, rfl⟩

set_option maxRecDepth 100000 in
theorem hasOf_snoc (H : Int → List UInt8) (W : List (Int × List UInt8)) (i : Int) (k : Nat) (h : k < W.length) : hasOf H (W.take (k + 1)) i = if W[k].1 = i then W[k].2 else hasOf H (W.take k) i := by
  unfold hasOf
  rw [List.take_add_one, List.getElem?_eq_getElem h, Option.toList_some, List.foldl_append, List.foldl_cons, List.foldl_nil]

set_option maxRecDepth 100000 in
set_option maxHeartbeats 1000000 in
theorem rread_ok (B p : Nat) (hv wv : Value) (D : dSt) (i : Int) (w : World) (hd : IsRef w B p hv wv D) (hl : D.W.length ≤ 1000) (hi : 0 ≤ i ∧ i < D.size) (hon : D.left ≠ 0) :
    Calls Tryz.prog 133 #[.pointer (some ⟨p, 0, none⟩), .int .i64 i] w fun e w' => e = .returned (.tuple #[Str (hasOf D.H D.W i), .int .i64 0]) ∧ w' = w := by
  obtain ⟨g, cap, rfl, hcap, _, hcell, _⟩ := hd.heldAt
  obtain ⟨ao, wcap, rfl, hwcap, hrest⟩ := hd.waitAt
  have hs := hd.size
  obtain ⟨m, rfl⟩ : ∃ m : Nat, i = m := ⟨i.toNat, by omega⟩
  have c0 : w.cell? ⟨p, 0, none⟩ = some (.slice (some ⟨g, 0, none⟩) D.size.toNat cap) := cellOf hd.box 0
  have c1 : w.cell? ⟨p, 1, none⟩ = some (.slice ao D.W.length wcap) := cellOf hd.box 1
  have c3 : w.cell? ⟨p, 3, none⟩ = some (.int .i64 D.left) := cellOf hd.box 3
  have hm : m < D.size.toNat := by have h9 := hi.2; clear hcell hrest hd c0 c1 c3; omega
  have cm : w.cell? ⟨g, m, none⟩ = some (Str (D.H (m : Int))) := hcell m hm
  have hq : ((D.size.toNat : Nat) : Int) = D.size := Int.toNat_of_nonneg (by have := hs.1; clear hcell hrest hd c0 c1 c3 cm; omega)
  have h0 : ¬ (m : Int) < 0 := by omega
  have h2 : decide (D.size ≤ (m : Int)) = false := by simp; omega
  have h3 : (D.left == 0) = false := by simp [hon]
  have HR := hid hrest
  clear hd hi hon hrest hcell
  go_enter Tryz.func133, Tryz.ntmps133
  go_wp2
  go_loop [6, 7] (fun s t => ∃ k : Nat, k ≤ D.W.length ∧ t = .int .i64 k ∧ s = Str (hasOf D.H (D.W.take k) m)) (fun _ t => D.W.length - (intOf t).toNat)
  case atStart => exact ⟨0, Nat.zero_le _, rfl, rfl⟩
  case round =>
    obtain ⟨k, hk, rfl, rfl⟩ := hrel
    by_cases hlt : k < D.W.length
    · obtain ⟨gw, rfl, _, hc, _⟩ := HR.out (by omega)
      have hc0 := (hc k hlt).1
      have hc1 := (hc k hlt).2
      have hsn := hid (hasOf_snoc D.H D.W m k hlt)
      clear hc HR
      by_cases he : D.W[k].1 = (m : Int)
      · have hb : (D.W[k].1 == (m : Int)) = true := by simp [he]
        have HE := hid he
        clear he
        go_wp2
        exact ⟨⟨k + 1, by omega, by go_num, by rw [hsn.out, if_pos HE.out]⟩, by simp [intOf]; omega⟩
      · have hb : (D.W[k].1 == (m : Int)) = false := by simp [he]
        have HE := hid he
        clear he
        go_wp2
        exact ⟨⟨k + 1, by omega, by go_num, by rw [hsn.out, if_neg HE.out]⟩, by simp [intOf]; omega⟩
    · obtain rfl : k = D.W.length := by omega
      go_wp2
      go_ret2
      exact ⟨rfl, rfl⟩

end Go.Proofs.YtjlennpoaefllaaGreatDoor

/- The reference's Pending, Ints and Put. -/
namespace Go.Proofs.YtjlennpoaefllaaGreatDoor
open Go.RowKit

/-- The sectors of the writes that wait. -/
def places (W : List (Int × List UInt8)) : List Int := W.map (·.1)

set_option maxRecDepth 100000 in
set_option maxHeartbeats 400000 in
theorem rput_off (B p : Nat) (hv wv : Value) (D : dSt) (i : Int) (bs : List UInt8) (w : World) (hd : IsRef w B p hv wv D) (hi : 0 ≤ i ∧ i < D.size) (hbs : bs.length = 256) (hon : D.left = 0) :
    Calls Tryz.prog 85 #[.pointer (some ⟨p, 0, none⟩), .int .i64 i, Str bs] w fun e w' => e = .returned (.int .i64 10) ∧ w' = w := by
  obtain ⟨g, cap, rfl, hcap, _, _, _⟩ := hd.heldAt
  have hs := hd.size
  have c0 : w.cell? ⟨p, 0, none⟩ = some (.slice (some ⟨g, 0, none⟩) D.size.toNat cap) := cellOf hd.box 0
  have c3 : w.cell? ⟨p, 3, none⟩ = some (.int .i64 D.left) := cellOf hd.box 3
  rw [hon] at c3
  have hq : ((D.size.toNat : Nat) : Int) = D.size := Int.toNat_of_nonneg (by have := hs.1; clear hd c0 c3; omega)
  have h0 : ¬ i < 0 := by omega
  have h2 : decide (D.size ≤ i) = false := by simp; omega
  have h5 : (⟨bs.toArray⟩ : ByteArray).size = 256 := by simp [ByteArray.size, hbs]
  clear hd hi
  unfold Str
  go_enter Tryz.func85, Tryz.ntmps85
  go_wp2
  go_ret
  exact ⟨rfl, rfl⟩

end Go.Proofs.YtjlennpoaefllaaGreatDoor

/- The reference's Put and Sync. -/
namespace Go.Proofs.YtjlennpoaefllaaGreatDoor
open Go.RowKit

set_option maxRecDepth 100000 in
theorem info78all : ∃ i, Tryz.prog.info? 173 = some i ∧ i.zero = some (.agg #[.int .i64 0, Str []]) ∧ i.size = 2 ∧ i.bytes = 24 := by
  have h : (Tryz.prog.info? 173).map (fun i => (i.zero, i.size, i.bytes)) = some (some (.agg #[.int .i64 0, Str []]), 2, 24) := by kernel_rfl
  cases hq : Tryz.prog.info? 173 with
  | none => rw [hq] at h; cases h
  | some i =>
    rw [hq] at h
    simp only [Option.map_some, Option.some.injEq, Prod.mk.injEq] at h
    exact ⟨i, rfl, h.1, h.2.1, h.2.2⟩
theorem one_rcells (x : Int × List UInt8) : ∀ u ∈ rcells x, u.oneCell' = true := fun u hu => by
  simp only [rcells, List.mem_cons, List.not_mem_nil, or_false] at hu
  rcases hu with rfl | rfl <;> rfl
theorem cell_two_new (w : World) (a b : Value) (t : TypeId) : ∀ j u, [a, b][j]? = some u → (w.alloc (.cells #[a, b] t)).cell? ((⟨w.heap.size, 0, none⟩ : Addr).add j) = some u := fun j u hu => by
  rw [Addr.add_mid, Nat.zero_add, cellOf (heap_alloc_new w _)]
  simpa using hu

/-- What the reference's Put leaves. -/
def PRPut (w : World) (B p : Nat) (hv wv : Value) (D : dSt) (i : Int) (bs : List UInt8) (e : Ending) (w' : World) : Prop :=
  ∃ wv', e = .returned (.int .i64 0) ∧ IsRef w' B p hv wv' (D.wrote i bs) ∧ Touch (fun k => k = p ∨ wv.ownBlock = some k) w w' ∧ ∀ k, wv'.ownBlock = some k → wv.ownBlock = some k ∨ w.heap.size ≤ k

set_option maxRecDepth 100000 in
theorem rput_mem {w w' : World} {B p : Nat} {hv wv v' : Value} {D : dSt} (i : Int) (bs : List UInt8) (hbs : bs.length = 256) (hi : 0 ≤ i ∧ i < D.size) (hd : IsRef w B p hv wv D) (A : Obj)
    (hown : w'.ownsRow B 173 2 v' (D.W.length + 1) (rflat D.W ++ rcells (i, bs))) (hgrow : (w.alloc A).grownBy w' wv.ownBlock) (s l : Int) :
    (w'.heap[p]? = some (.cells #[hv, wv, .int .i64 D.steps, .int .i64 D.left] 84 (0, 0))) ∧ ((w'.setCell ⟨p, 1, none⟩ v').heap[p]? = some (.cells #[hv, v', .int .i64 D.steps, .int .i64 D.left] 84 (0, 0))) ∧
    IsRef ((w'.setCell ⟨p, 1, none⟩ v').setRow p #[hv, v', .int .i64 s, .int .i64 l]) B p hv v' { D with W := D.W ++ [(i, bs)], steps := s, left := l } ∧
    Touch (fun k => k = p ∨ wv.ownBlock = some k) w ((w'.setCell ⟨p, 1, none⟩ v').setRow p #[hv, v', .int .i64 s, .int .i64 l]) := by
  have hplt : p < w.heap.size := (Array.getElem?_eq_some_iff.1 hd.box).1
  have hp' : w'.heap[p]? = some (.cells #[hv, wv, .int .i64 D.steps, .int .i64 D.left] 84 (0, 0)) := by
    rw [hgrow.block p (by simp; omega) (fun e => hd.ne.2.1 p e.symm rfl), Below.heap_alloc _ _ _ hplt]; exact hd.box
  have hbox2 := heap_setCell_same w' p 1 _ 84 v' hp'
  have hT : Touch (fun k => wv.ownBlock = some k) w w' := Touch.grown ((Touch.refl _ w).alloc _) hgrow (fun k hk _ => hk)
  have hT1 : Touch (fun k => k = p) w' ((w'.setCell ⟨p, 1, none⟩ v').setRow p #[hv, v', .int .i64 s, .int .i64 l]) := Touch.setRow (T := fun k => k = p) (Touch.setCell (T := fun k => k = p) (Touch.refl _ w') (fun _ => rfl) _) (fun _ => rfl) _
  refine ⟨hp', hbox2, ⟨setRow_heap _ p _ _ 84 _ hbox2, ?_, ?_, ?_, hd.low, hd.size, hd.good, ?_⟩, ?_⟩
  · exact own_kept (own_kept hd.held hT (fun k hk e => hd.ne.2.2 k k hk e rfl)) hT1 (fun k hk => hd.ne.1 k hk)
  · show World.ownsRow _ B 173 2 v' (D.W ++ [(i, bs)]).length (rflat (D.W ++ [(i, bs)]))
    rw [rflat_snoc, List.length_append]
    refine own_kept hown hT1 (fun k hk e => ?_)
    subst e
    obtain ⟨c, hc⟩ := own_type hown hk
    rw [hp'] at hc; simp at hc
  · intro x hx
    rcases List.mem_append.1 hx with hx | hx
    · exact hd.places x hx
    · obtain rfl := List.mem_singleton.1 hx; exact hi
  · intro x hx
    rcases List.mem_append.1 hx with hx | hx
    · exact hd.goodW x hx
    · obtain rfl := List.mem_singleton.1 hx; exact hbs
  · exact (hT.mono (fun k _ h => .inr h)).then hT1 (fun k _ h => .inl h)

set_option maxRecDepth 100000 in
theorem hat_of {w : World} {o : Obj} {v v' : Value} (h : v'.ownBlock = v.ownBlock ∨ v'.ownBlock = some (w.alloc o).heap.size) : ∀ k, v'.ownBlock = some k → v.ownBlock = some k ∨ w.heap.size ≤ k := by
  intro k hk
  rcases h with c | c
  · exact .inl (by rw [← c]; exact hk)
  · refine .inr ?_
    rw [c] at hk
    have e : (w.alloc o).heap.size = k := Option.some.inj hk
    simp at e
    omega
set_option maxRecDepth 100000 in
set_option maxHeartbeats 1000000 in
theorem rput_ok (B p : Nat) (hv wv : Value) (D : dSt) (i : Int) (bs : List UInt8) (w : World) (hd : IsRef w B p hv wv D) (hB : B ≤ w.heap.size) (hl : D.W.length ≤ 1000) (hi : 0 ≤ i ∧ i < D.size) (hbs : bs.length = 256) (hon : D.left ≠ 0)
    (hs0 : 0 ≤ D.steps) (hs1 : D.steps < 1000000) (hl0 : -1 ≤ D.left) (hl1 : D.left ≤ 9223372036854775807) :
    Calls Tryz.prog 85 #[.pointer (some ⟨p, 0, none⟩), .int .i64 i, Str bs] w (PRPut w B p hv wv D i bs) := by
  obtain ⟨g, cap, rfl, hcap, _, _, _⟩ := hd.heldAt
  obtain ⟨ao, wcap, rfl, hwcap, _⟩ := hd.waitAt
  obtain ⟨i78, hi78, hz0, hz1, hz2⟩ := info78all
  have hs := hd.size
  have c0 : w.cell? ⟨p, 0, none⟩ = some (.slice (some ⟨g, 0, none⟩) D.size.toNat cap) := cellOf hd.box 0
  have c1 : w.cell? ⟨p, 1, none⟩ = some (.slice ao D.W.length wcap) := cellOf hd.box 1
  have c3 : w.cell? ⟨p, 3, none⟩ = some (.int .i64 D.left) := cellOf hd.box 3
  have hq : ((D.size.toNat : Nat) : Int) = D.size := Int.toNat_of_nonneg (by have := hs.1; clear hd c0 c3; omega)
  have h0 : ¬ i < 0 := by omega
  have h2 : decide (D.size ≤ i) = false := by simp; omega
  have h3 : (D.left == 0) = false := by simp [hon]
  have h5 : (⟨bs.toArray⟩ : ByteArray).size = 256 := by simp [ByteArray.size, hbs]
  have HMEM := hid (fun (w' : World) (v' : Value) (ho : w'.ownsRow B 173 2 v' (D.W.length + 1) (rflat D.W ++ rcells (i, bs))) (hg : (w.alloc (.cells #[.int .i64 i, Str bs] 173)).grownBy w' (Value.slice ao D.W.length wcap).ownBlock) => rput_mem i bs hbs hi hd _ ho hg (D.steps + 1) (less D.left))
  have HOWN := hid (hd.wait.alloc (.cells #[.int .i64 i, Str bs] 173))
  have H3 := hid (show D.W.length + 1 ≤ maxLen by unfold maxLen; omega)
  have H4 := hid (show (D.W.length + 1) * 24 ≤ 140737488355328 by omega)
  have H5 := hid (show B ≤ (w.alloc (.cells #[.int .i64 i, Str bs] 173)).heap.size by simp; omega)
  have HPL := hid ((Array.getElem?_eq_some_iff.1 hd.box).1)
  clear hd hi hon
  unfold Str at *
  go_enter Tryz.func85, Tryz.ntmps85
  go_wp2_with (first
    | (at_builtin; refine wpList_append_own_at _ rfl _ _ 82 rfl B 173 i78 _ 2 24 Tryz.underlying82 hi78 hz0 hz1 hz2 rfl (by decide) _ D.W.length (rflat D.W) rfl HOWN.out ⟨w.heap.size, 0, none⟩ 1 1 [.int .i64 i, .string ⟨bs.toArray⟩] rfl rfl (cell_two_new _ _ _ _) (one_rcells (i, bs)) H3.out H4.out H5.out ?_; intro v' w3 hown' hgrow' _ hat'; have HAT := hid (hat_of hat'); clear hat'; obtain ⟨g', cap', rfl⟩ := own_some hown'; obtain ⟨hm1, hm2, hm3, hm4⟩ := HMEM.out _ _ hown' hgrow'; have c3' := cellOf hm1 1; have f3 := frozen_of_row w3 p 1 _ 84 hm1; have HM2 := hid hm2; have HM3 := hid hm3; clear hm1 hm2 hm3)
    | (go_at_call 126; refine (rstep_any p _ _ D.steps D.left _ HM2.out hs0 hs1 hl0 hl1).mono ?_; rintro e w4 ⟨rfl, hw4⟩))
  go_ret
  subst hw4
  exact ⟨_, rfl, HM3.out, hm4, HAT.out⟩

set_option maxRecDepth 100000 in
set_option maxHeartbeats 400000 in
theorem rsync_off (B p : Nat) (hv wv : Value) (D : dSt) (w : World) (hd : IsRef w B p hv wv D) (hon : D.left = 0) :
    Calls Tryz.prog 86 #[.pointer (some ⟨p, 0, none⟩)] w fun e w' => e = .returned (.int .i64 10) ∧ w' = w := by
  have c3 : w.cell? ⟨p, 3, none⟩ = some (.int .i64 D.left) := cellOf hd.box 3
  rw [hon] at c3
  clear hd
  go_enter Tryz.func86, Tryz.ntmps86
  go_wp2
  go_ret
  exact ⟨rfl, rfl⟩

/-- A store leaves the other blocks' cells. -/
theorem cell_setCell_block (w : World) (p : Addr) (v : Value) (a : Addr) (h : a.block ≠ p.block) : (w.setCell p v).cell? a = w.cell? a := World.cell?_of_block (heap_setCell_other w p a.block v h)
theorem frozen_setCell {w : World} {g j : Nat} {c : Array Value} {t : TypeId} (h : w.heap[g]? = some (.cells c t (0, 0))) (m : Nat) (v : Value) : (w.setCell ⟨g, j, none⟩ v).frozen? ⟨g, m, none⟩ = false := frozen_of_row _ g m _ t (heap_setCell_same w g j c t v h)
set_option maxRecDepth 100000 in
theorem cell_setCell_same {w : World} {g j : Nat} {c : Array Value} {t : TypeId} (h : w.heap[g]? = some (.cells c t (0, 0))) {u : Value} (hc : w.cell? ⟨g, j, none⟩ = some u) (v : Value) : (w.setCell ⟨g, j, none⟩ v).cell? ⟨g, j, none⟩ = some v := by
  rw [cellOf (heap_setCell_same w g j c t v h)]
  rw [cellOf h] at hc
  have := (Array.getElem?_eq_some_iff.1 hc).1
  simp [this]

set_option maxRecDepth 100000 in
theorem run_store_str (w : World) (g m : Nat) (bs : List UInt8) {u : Value} (hc : w.cell? ⟨g, m, none⟩ = some u) (hf : w.frozen? ⟨g, m, none⟩ = false) : (store ⟨g, m, none⟩ (Str bs)).run Tryz.prog w = .ok () (w.setCell ⟨g, m, none⟩ (Str bs)) := by
  rw [run_store _ _ _ _ _ rfl, hc]; simp [hf]

/-- What the reference's Sync leaves. -/
def PRSync (w : World) (B p : Nat) (hv : Value) (D : dSt) (e : Ending) (w' : World) : Prop := e = .returned (.int .i64 0) ∧ IsRef w' B p hv (.slice none 0 0) D.synced ∧ Touch (fun k => k = p ∨ hv.ownBlock = some k) w w'

set_option maxRecDepth 100000 in
/-- A store into what is held. -/
theorem IsRef.setHeld {w : World} {B p g cap : Nat} {wv : Value} {D : dSt} (hd : IsRef w B p (.slice (some ⟨g, 0, none⟩) D.size.toNat cap) wv D) (i : Nat) (bs : List UInt8) (hl : bs.length = 256) :
    IsRef (w.setCell ⟨g, i, none⟩ (Str bs)) B p (.slice (some ⟨g, 0, none⟩) D.size.toNat cap) wv { D with H := upd D.H (i : Int) bs } := by
  have hT : Touch (fun k => k = g) w (w.setCell ⟨g, i, none⟩ (Str bs)) := Touch.setCell (T := fun k => k = g) (Touch.refl _ w) (fun _ => rfl) _
  have h := (hd.held.stored i (Str bs)).1
  rw [strs_set] at h
  refine ⟨?_, h, own_kept hd.wait hT (fun k hk e => hd.ne.2.2 g k rfl hk e.symm), hd.places, hd.low, hd.size, upd_len hd.good _ hl, hd.goodW⟩
  rw [hT.block p (Array.getElem?_eq_some_iff.1 hd.box).1 (fun e => hd.ne.1 g rfl e.symm)]; exact hd.box

set_option maxRecDepth 100000 in
theorem rsync_mem {w : World} {B p : Nat} {hv wv : Value} {D : dSt} (hd : IsRef w B p hv wv D) (s l : Int) :
    IsRef ((w.setCell ⟨p, 1, none⟩ (.slice none 0 0)).setRow p #[hv, .slice none 0 0, .int .i64 s, .int .i64 l]) B p hv (.slice none 0 0) { D with W := [], steps := s, left := l } := by
  have hT1 : Touch (fun k => k = p) w ((w.setCell ⟨p, 1, none⟩ (.slice none 0 0)).setRow p #[hv, .slice none 0 0, .int .i64 s, .int .i64 l]) := Touch.setRow (T := fun k => k = p) (Touch.setCell (T := fun k => k = p) (Touch.refl _ w) (fun _ => rfl) _) (fun _ => rfl) _
  exact ⟨setRow_heap _ p _ _ 84 _ (heap_setCell_same w p 1 _ 84 _ hd.box), own_kept hd.held hT1 hd.ne.1, World.ownsRow_nil _ _ _ _, fun x hx => (by cases hx), hd.low, hd.size, hd.good, fun x hx => (by cases hx)⟩

set_option maxRecDepth 100000 in
set_option maxHeartbeats 2000000 in
theorem rsync_ok (B p : Nat) (hv wv : Value) (D : dSt) (w : World) (hd : IsRef w B p hv wv D) (hl : D.W.length ≤ 1000) (hon : D.left ≠ 0)
    (hs0 : 0 ≤ D.steps) (hs1 : D.steps < 1000000) (hl0 : -1 ≤ D.left) (hl1 : D.left ≤ 9223372036854775807) :
    Calls Tryz.prog 86 #[.pointer (some ⟨p, 0, none⟩)] w (PRSync w B p hv D) := by
  obtain ⟨g, cap, rfl, hcap, _, _, _⟩ := hd.heldAt
  obtain ⟨ao, wcap, rfl, hwcap, _⟩ := hd.waitAt
  have c3 : w.cell? ⟨p, 3, none⟩ = some (.int .i64 D.left) := cellOf hd.box 3
  have h3 : (D.left == 0) = false := by simp [hon]
  have HD := hid hd
  clear hd hon
  go_enter Tryz.func86, Tryz.ntmps86
  go_wp2
  go_loopw [3] (fun t wr => ∃ k : Nat, k ≤ D.W.length ∧ t = .int .i64 k ∧ Hid (IsRef wr B p (.slice (some ⟨g, 0, none⟩) D.size.toNat cap) (.slice ao D.W.length wcap) { D with H := syncH D.H (D.W.take k) } ∧ Touch (fun j => j = g) w wr)) (fun t _ => D.W.length - (intOf t).toNat)
  case atStart => exact ⟨0, Nat.zero_le _, rfl, HD.out, Touch.refl _ _⟩
  case round =>
    obtain ⟨k, hk, rfl, HH⟩ := hrel
    have c0r : wr.cell? ⟨p, 0, none⟩ = some (.slice (some ⟨g, 0, none⟩) D.size.toNat cap) := cellOf HH.out.1.box 0
    have c1r : wr.cell? ⟨p, 1, none⟩ = some (.slice ao D.W.length wcap) := cellOf HH.out.1.box 1
    clear c3 HD
    by_cases hlt : k < D.W.length
    · have hHS := hid (syncH_snoc D.H D.W k hlt)
      obtain ⟨ao', wcap', he, _, hrest⟩ := HH.out.1.waitAt
      obtain ⟨gw, rfl, _, hc, _⟩ := hrest (show 0 < D.W.length by omega)
      obtain ⟨rfl, rfl⟩ : ao = some ⟨gw, 0, none⟩ ∧ wcap = wcap' := by simpa using he
      have hc0 : wr.cell? ⟨gw, k * 2, none⟩ = some (.int .i64 D.W[k].1) := (hc k hlt).1
      have hc1 : wr.cell? ⟨gw, k * 2 + 1, none⟩ = some (Str D.W[k].2) := (hc k hlt).2
      have hp0 : 0 ≤ D.W[k].1 := (HH.out.1.places _ (List.getElem_mem hlt)).1
      have hp1 : D.W[k].1 < D.size := (HH.out.1.places _ (List.getElem_mem hlt)).2
      have HGD : Hid (D.W[k].2.length = 256) := HH.out.1.goodW _ (List.getElem_mem hlt)
      clear hc hrest he
      generalize D.W[k] = x at hHS hc0 hc1 hp0 hp1 HGD
      obtain ⟨xi, xb⟩ := x
      simp only at hHS hc0 hc1 hp0 hp1 HGD
      obtain ⟨m, rfl⟩ : ∃ m : Nat, xi = m := ⟨xi.toNat, (Int.toNat_of_nonneg hp0).symm⟩
      have hm : m < D.size.toNat := by clear hc0 hc1 c0r c1r; omega
      obtain ⟨g2, cap2, he2, _, _, hcell, hfr⟩ := HH.out.1.heldAt
      obtain ⟨rfl, rfl⟩ : g = g2 ∧ cap = cap2 := by simpa using he2
      have hcm := hcell m hm
      have hfm := hfr m
      have HSET := hid (IsRef.setHeld (D := { D with H := syncH D.H (D.W.take k) }) HH.out.1 m xb HGD.out)
      clear hcell hfr he2
      have hne : p ≠ g := fun e => HH.out.1.ne.1 g rfl e.symm
      have hne2 : gw ≠ g := fun e => HH.out.1.ne.2.2 g gw rfl rfl e.symm
      have HK1 := hid (show wr.drew.cell? ⟨p, 0, none⟩ = some (.slice (some ⟨g, 0, none⟩) D.size.toNat cap) ∧ wr.drew.cell? ⟨p, 1, none⟩ = some (.slice (some ⟨gw, 0, none⟩) D.W.length wcap) ∧ wr.drew.cell? ⟨gw, k * 2, none⟩ = some (.int .i64 m) ∧ wr.drew.cell? ⟨gw, k * 2 + 1, none⟩ = some (Str xb) ∧ (∃ u, wr.drew.cell? ⟨g, m, none⟩ = some u) ∧ wr.drew.frozen? ⟨g, m, none⟩ = false from ⟨c0r, c1r, hc0, hc1, ⟨_, hcm⟩, hfm⟩)
      have HK2 := hid (show (wr.drew.setCell ⟨g, m, none⟩ (Str xb)).cell? ⟨p, 0, none⟩ = some (.slice (some ⟨g, 0, none⟩) D.size.toNat cap) ∧ (wr.drew.setCell ⟨g, m, none⟩ (Str xb)).cell? ⟨p, 1, none⟩ = some (.slice (some ⟨gw, 0, none⟩) D.W.length wcap) ∧ (wr.drew.setCell ⟨g, m, none⟩ (Str xb)).cell? ⟨gw, k * 2, none⟩ = some (.int .i64 m) ∧ (wr.drew.setCell ⟨g, m, none⟩ (Str xb)).cell? ⟨gw, k * 2 + 1, none⟩ = some (Str xb) ∧ (∃ u, (wr.drew.setCell ⟨g, m, none⟩ (Str xb)).cell? ⟨g, m, none⟩ = some u) ∧ (wr.drew.setCell ⟨g, m, none⟩ (Str xb)).frozen? ⟨g, m, none⟩ = false by
        refine ⟨?_, ?_, ?_, ?_, ⟨Str xb, ?_⟩, ?_⟩
        · rw [cell_setCell_block _ _ _ _ hne]; exact c0r
        · rw [cell_setCell_block _ _ _ _ hne]; exact c1r
        · rw [cell_setCell_block _ _ _ _ hne2]; exact hc0
        · rw [cell_setCell_block _ _ _ _ hne2]; exact hc1
        · obtain ⟨c, hc⟩ := own_type HH.out.1.held rfl
          exact cell_setCell_same (w := wr.drew) hc hcm _
        · obtain ⟨c, hc⟩ := own_type HH.out.1.held rfl
          exact frozen_setCell (w := wr.drew) hc m _)
      have hq : ((D.size.toNat : Nat) : Int) = D.size := Int.toNat_of_nonneg (by clear hc0 hc1 c0r c1r; omega)
      have hst := run_store_str wr.drew g m xb hcm hfm
      go_upto_region 6 with fail
      go_region_held3 (fun w' => w'.cell? ⟨p, 0, none⟩ = some (.slice (some ⟨g, 0, none⟩) D.size.toNat cap) ∧ w'.cell? ⟨p, 1, none⟩ = some (.slice (some ⟨gw, 0, none⟩) D.W.length wcap) ∧ w'.cell? ⟨gw, k * 2, none⟩ = some (.int .i64 m) ∧ w'.cell? ⟨gw, k * 2 + 1, none⟩ = some (Str xb) ∧ (∃ u, w'.cell? ⟨g, m, none⟩ = some u) ∧ w'.frozen? ⟨g, m, none⟩ = false) (first | exact HK1.out | exact HK2.out) (fail)
      go_wp2
      go_roundw
      case rel =>
        refine ⟨k + 1, by omega, by go_num, ?_, ?_⟩
        · rw [hHS.out]; exact (HSET.out.adds (Touch.refl _ _).drew)
        · exact HH.out.2.drew.setCell (fun _ => rfl) _
      case measure => simp [intOf]; omega
    · obtain rfl : k = D.W.length := by omega
      have f1 : wr.frozen? ⟨p, 1, none⟩ = false := frozen_of_row wr p 1 _ 84 HH.out.1.box
      have hbox2 := hid (heap_setCell_same wr p 1 _ 84 (.slice none 0 0) HH.out.1.box)
      go_wp2_with (go_at_call 126; refine (rstep_any p _ _ D.steps D.left _ hbox2.out hs0 hs1 hl0 hl1).mono ?_; rintro e w4 ⟨rfl, hw4⟩)
      go_ret
      have hm := rsync_mem HH.out.1 (D.steps + 1) (less D.left)
      subst hw4
      refine ⟨rfl, ?_, ?_⟩
      · rw [List.take_length] at hm; exact hm
      · have hT : Touch (fun j => j = p ∨ (Value.slice (some ⟨g, 0, none⟩) D.size.toNat cap).ownBlock = some j) w wr := HH.out.2.mono (fun j _ e => .inr (by rw [e]; rfl))
        exact (hT.setCell (fun _ => .inl rfl) _).setRow (fun _ => .inl rfl) _

end Go.Proofs.YtjlennpoaefllaaGreatDoor

/- Facts on what Spoil leaves, and on strings as lists of bytes. -/
namespace Go.Proofs.YtjlennpoaefllaaGreatDoor
open Go.RowKit

end Go.Proofs.YtjlennpoaefllaaGreatDoor

/- The reference's Spoil. -/
namespace Go.Proofs.YtjlennpoaefllaaGreatDoor
open Go.RowKit

end Go.Proofs.YtjlennpoaefllaaGreatDoor

/- For DiskSynced: what a loss leaves, as plain lists; rows of six; blocks that no disk turns. -/
namespace Go.Proofs.YtjlennpoaefllaaGreatDoor
open Go.RowKit

set_option maxRecDepth 100000 in
/-- A block of another type is none of a disk's. -/
theorem IsDisk.apart {w : World} {B p hb : Nat} {wv : Value} {D : dSt} (h : IsDisk w B p hb wv D) {k : Nat} {c : Array Value} {t : TypeId} {fr : Nat × Nat} (hk : w.heap[k]? = some (.cells c t fr)) (h1 : t ≠ 81) (h2 : t ≠ 188) : k ≠ p ∧ k ≠ hb ∧ wv.ownBlock ≠ some k := by
  refine ⟨fun e => ?_, fun e => ?_, fun e => ?_⟩
  · subst e; rw [h.box] at hk; simp at hk; exact h1 hk.2.1.symm
  · subst e; obtain ⟨es, clock, e1, _⟩ := h.held; rw [e1] at hk; cases hk
  · rcases h.wait.2 with ⟨rfl, _⟩ | ⟨g, cap, cur, rfl, _, hgg, _⟩
    · cases e
    · obtain rfl : g = k := by simpa [Value.ownBlock] using e
      rw [hgg] at hk; simp at hk; exact h2 hk.2.1.symm

set_option maxRecDepth 100000 in
theorem Touch.at {T : Nat → Prop} {w w' : World} (h : Touch T w w') {k : Nat} {o : Obj} (hk : w.heap[k]? = some o) (hn : ¬ T k) : w'.heap[k]? = some o := by
  rw [h.block k (Array.getElem?_eq_some_iff.1 hk).1 hn]; exact hk

end Go.Proofs.YtjlennpoaefllaaGreatDoor

/- The reference's Lose. -/
namespace Go.Proofs.YtjlennpoaefllaaGreatDoor
open Go.RowKit

/-- What the reference's Lose tells, and leaves. -/
def PRLose (w : World) (B : Nat) (D' : dSt) (e : Ending) (w' : World) : Prop := ∃ p hv, e = .returned (.tuple #[.pointer (some ⟨p, 0, none⟩), .int .i64 0]) ∧ w.heap.size ≤ p ∧ IsRef w' B p hv (.slice none 0 0) D' ∧ Adds w w'

theorem IsRef.mono {w : World} {B C p : Nat} {hv wv : Value} {D : dSt} (h : IsRef w C p hv wv D) (hB : B ≤ C) : IsRef w B p hv wv D :=
  ⟨h.box, own_mono h.held hB, own_mono h.wait hB, h.places, Nat.le_trans hB h.low, h.size, h.good, h.goodW⟩

end Go.Proofs.YtjlennpoaefllaaGreatDoor

/- The reference's disk with its owner; its calls, in all cases. -/
namespace Go.Proofs.YtjlennpoaefllaaGreatDoor
open Go.RowKit

/-- The reference's disk, all of whose blocks are of O. -/
def IsRO (w : World) (O : Nat → Prop) (p : Nat) (D : dSt) : Prop := ∃ hv wv, IsRef w 0 p hv wv D ∧ O p ∧ (∀ k, hv.ownBlock = some k → O k) ∧ ∀ k, wv.ownBlock = some k → O k
theorem IsRO.touch {w w' : World} {O T : Nat → Prop} {p : Nat} {D : dSt} (h : IsRO w O p D) (hT : Touch T w w') (hn : ∀ k, O k → ¬ T k) : IsRO w' O p D := by
  obtain ⟨hv, wv, hd, h1, h2, h3⟩ := h
  exact ⟨hv, wv, hd.kept hT (hn _ h1) (fun k hk => hn k (h2 k hk)) (fun k hk => hn k (h3 k hk)), h1, h2, h3⟩
theorem IsRO.adds {w w' : World} {O : Nat → Prop} {p : Nat} {D : dSt} (h : IsRO w O p D) (hT : Adds w w') : IsRO w' O p D := h.touch hT (fun _ _ => id)
theorem IsRO.mono {w : World} {O O' : Nat → Prop} {p : Nat} {D : dSt} (h : IsRO w O p D) (hn : ∀ k, O k → O' k) : IsRO w O' p D := by
  obtain ⟨hv, wv, hd, h1, h2, h3⟩ := h
  exact ⟨hv, wv, hd, hn _ h1, fun k hk => hn k (h2 k hk), fun k hk => hn k (h3 k hk)⟩
/-- What a call of the reference's disk leaves. -/
def PRo (w : World) (O : Nat → Prop) (p : Nat) (x : Int × dSt) (e : Ending) (w' : World) : Prop := e = .returned (.int .i64 x.1) ∧ Hid (∃ O', IsRO w' O' p x.2 ∧ Touch O w w' ∧ ∀ k, O' k → O k ∨ (w.heap.size ≤ k ∧ k < w'.heap.size))
theorem PRo.same {w w' : World} {O : Nat → Prop} {p : Nat} {D : dSt} (h : IsRO w O p D) (hw : w' = w) (z : Int) : PRo w O p (z, D) (.returned (.int .i64 z)) w' := by
  subst hw
  exact ⟨rfl, O, h, Touch.refl _ _, fun _ c => .inl c⟩
theorem ro_put {w : World} {O : Nat → Prop} {p : Nat} {D : dSt} {n : Nat} (h : IsRO w O p D) (hk : DOk D n) (hn : n ≤ 900) (i : Int) (hi : 0 ≤ i ∧ i < D.size) (bs : List UInt8) (hbs : bs.length = 256) :
    Calls Tryz.prog 85 #[Ptr p, .int .i64 i, Str bs] w (PRo w O p (if D.left = 0 then (10, D) else (0, D.wrote i bs))) := by
  have hD := h
  obtain ⟨hv, wv, hd, h1, h2, h3⟩ := h
  by_cases hon : D.left = 0
  · rw [if_pos hon]
    refine (rput_off 0 p hv wv D i bs w hd hi hbs hon).mono ?_
    rintro e w' ⟨rfl, hw⟩
    exact PRo.same hD hw 10
  · rw [if_neg hon]
    have := hk.waits
    have := hk.steps1
    refine (rput_ok 0 p hv wv D i bs w hd (Nat.zero_le _) (by omega) hi hbs hon hk.steps0 (by omega) hk.left0 hk.left1).mono ?_
    rintro e w' ⟨wv', rfl, hd', hT, hat⟩
    refine ⟨rfl, fun k => O k ∨ wv'.ownBlock = some k, ⟨hv, wv', hd', .inl h1, fun k hk => .inl (h2 k hk), fun k hk => .inr hk⟩, hT.mono (fun k _ c => by rcases c with rfl | c; exact h1; exact h3 k c), fun k hk' => ?_⟩
    rcases hk' with c | c
    · exact .inl c
    · rcases hat k c with c' | c'
      · exact .inl (h3 k c')
      · refine .inr ⟨c', ?_⟩
        obtain ⟨_, hc⟩ := own_type hd'.wait c
        exact (Array.getElem?_eq_some_iff.1 hc).1
theorem ro_sync {w : World} {O : Nat → Prop} {p : Nat} {D : dSt} {n : Nat} (h : IsRO w O p D) (hk : DOk D n) (hn : n ≤ 900) : Calls Tryz.prog 86 #[Ptr p] w (PRo w O p (if D.left = 0 then (10, D) else (0, D.synced))) := by
  have hD := h
  obtain ⟨hv, wv, hd, h1, h2, h3⟩ := h
  by_cases hon : D.left = 0
  · rw [if_pos hon]
    refine (rsync_off 0 p hv wv D w hd hon).mono ?_
    rintro e w' ⟨rfl, hw⟩
    exact PRo.same hD hw 10
  · rw [if_neg hon]
    have := hk.waits
    have := hk.steps1
    refine (rsync_ok 0 p hv wv D w hd (by omega) hon hk.steps0 (by omega) hk.left0 hk.left1).mono ?_
    rintro e w' ⟨rfl, hd', hT⟩
    exact ⟨rfl, O, ⟨hv, _, hd', h1, h2, fun k hk => by cases hk⟩, hT.mono (fun k _ c => by rcases c with rfl | c; exact h1; exact h2 k c), fun _ c => .inl c⟩
/-- What is cut, spoilt: answers and states. -/
def cutE (n : Int) : Int := if 0 ≤ n then 0 else 2
def cutD (D : dSt) (n : Int) : dSt := if 0 ≤ n then D.cut n else D
theorem ro_cut {w : World} {O : Nat → Prop} {p : Nat} {D : dSt} (h : IsRO w O p D) (n : Int) : Calls Tryz.prog 51 #[Ptr p, .int .i64 n] w (PRo w O p (cutE n, cutD D n)) := by
  have hD := h
  obtain ⟨hv, wv, hd, h1, h2, h3⟩ := h
  by_cases hn : 0 ≤ n
  · rw [cutE, cutD, if_pos hn, if_pos hn]
    refine (rcut_ok 0 p hv wv D n w hd hn).mono ?_
    rintro e w' ⟨rfl, hd', hT⟩
    exact ⟨rfl, O, ⟨hv, wv, hd', h1, h2, h3⟩, hT.mono (fun k _ c => by subst c; exact h1), fun _ c => .inl c⟩
  · rw [cutE, cutD, if_neg hn, if_neg hn]
    refine (rcut_bad p n w (by omega)).mono ?_
    rintro e w' ⟨rfl, hw⟩
    exact PRo.same hD hw 2
/-- What the reference's Read tells. -/
def rdS (D : dSt) (i : Int) : List UInt8 := if D.left = 0 then [] else hasOf D.H D.W i
theorem ro_read {w : World} {O : Nat → Prop} {p : Nat} {D : dSt} {n : Nat} (h : IsRO w O p D) (hk : DOk D n) (hn : n ≤ 900) (i : Int) (hi : 0 ≤ i ∧ i < D.size) (s : List UInt8) (z : Int) (hs : s = rdS D i) (hz : z = if D.left = 0 then 10 else 0) : Calls Tryz.prog 133 #[Ptr p, .int .i64 i] w (Tells (.tuple #[Str s, .int .i64 z]) w) := by
  obtain ⟨hv, wv, hd, h1, h2, h3⟩ := h
  by_cases hon : D.left = 0
  · rw [hs, hz, rdS, if_pos hon, if_pos hon]
    exact rread_off 0 p hv wv D i w hd hi hon
  · rw [hs, hz, rdS, if_neg hon, if_neg hon]
    have := hk.waits
    exact rread_ok 0 p hv wv D i w hd (by omega) hi hon
end Go.Proofs.YtjlennpoaefllaaGreatDoor
