/- The reference's disk in memory, and its small functions: Zero, step, New, Cut. -/
import Derived.Test.YtjjknckcodhnmaaCut
import Derived.Laws.IdiomStrings
namespace Go.Proofs.Ytjjknckcodhnmaa
open Go.RowKit

/-- Bytes as a string. -/
def Str (bs : List UInt8) : Value := .string ⟨bs.toArray⟩
/-- What is held, as cells. -/
def strs (H : Int → List UInt8) (n : Nat) : List Value := (List.range n).map fun (i : Nat) => Str (H (i : Int))
/-- A waiting write of the reference, as cells. -/
def rcells (x : Int × List UInt8) : List Value := [.int .i64 x.1, Str x.2]
def rflat (W : List (Int × List UInt8)) : List Value := W.flatMap rcells

theorem strs_len (H : Int → List UInt8) (n : Nat) : (strs H n).length = n := by simp [strs]
theorem strs_get (H : Int → List UInt8) (n i : Nat) (h : i < n) : (strs H n)[i]? = some (Str (H (i : Int))) := by simp [strs, h]
theorem strs_set (H : Int → List UInt8) (n i : Nat) (bs : List UInt8) : (strs H n).set i (Str bs) = strs (upd H (i : Int) bs) n := by
  apply List.ext_getElem?
  intro j
  rw [List.getElem?_set]
  by_cases hj : j < n
  · rw [strs_get _ _ _ hj, strs_get _ _ _ hj, strs_len]
    by_cases e : i = j
    · subst e; simp [hj, upd]
    · rw [if_neg e, upd, if_neg (by omega)]
  · rw [List.getElem?_eq_none (by rw [strs_len]; omega), List.getElem?_eq_none (by rw [strs_len]; omega), strs_len]
    split
    · rw [if_neg (by omega)]
    · rfl
theorem rflat_len : ∀ (W : List (Int × List UInt8)), (rflat W).length = W.length * 2
  | [] => rfl
  | x :: W => by
    have := rflat_len W
    simp only [rflat, List.flatMap_cons, List.length_append, List.length_cons] at this ⊢
    rw [this]; simp [rcells]; omega
theorem rflat_get : ∀ (W : List (Int × List UInt8)) (k : Nat) (hk : k < W.length) (j : Nat), j < 2 → (rflat W)[k * 2 + j]? = (rcells W[k])[j]?
  | [], k, hk, _, _ => absurd hk (by simp)
  | x :: W, 0, _, j, hj => by
    simp only [rflat, List.flatMap_cons, Nat.zero_mul, Nat.zero_add, List.getElem_cons_zero]
    rw [List.getElem?_append_left (by simp [rcells]; exact hj)]
  | x :: W, k + 1, hk, j, hj => by
    have ih := rflat_get W k (by simpa using hk) j hj
    simp only [rflat, List.flatMap_cons] at ih ⊢
    rw [List.getElem?_append_right (by simp [rcells]; omega), show (rcells x).length = 2 from rfl, show (k + 1) * 2 + j - 2 = k * 2 + j by omega, ih, List.getElem_cons_succ]
theorem rflat_snoc (W : List (Int × List UInt8)) (x : Int × List UInt8) : rflat (W ++ [x]) = rflat W ++ rcells x := by simp [rflat]

/-- At p lies a disk of the reference in the state D. -/
structure IsRef (w : World) (B p : Nat) (hv wv : Value) (D : St) : Prop where
  box : w.heap[p]? = some (.cells #[hv, wv, .int .i64 D.steps, .int .i64 D.left] 70 (0, 0))
  held : w.ownsRow B 9 1 hv D.size.toNat (strs D.H D.size.toNat)
  wait : w.ownsRow B 78 2 wv D.W.length (rflat D.W)
  places : ∀ x ∈ D.W, 0 ≤ x.1 ∧ x.1 < D.size
  low : B ≤ p
  size : 0 < D.size ∧ D.size ≤ 4096
  good : ∀ k, (D.H k).length = 256
  goodW : ∀ x ∈ D.W, x.2.length = 256

theorem own_kept {w w' : World} {T : Nat → Prop} {B : Nat} {e : TypeId} {size : Nat} {v : Value} {n : Nat} {xs : List Value} (h : w.ownsRow B e size v n xs) (ht : Touch T w w') (hn : ∀ k, v.ownBlock = some k → ¬ T k) : w'.ownsRow B e size v n xs := by
  refine ⟨h.1, ?_⟩
  rcases h.2 with hh | ⟨g, cap, cur, rfl, hb', hgg, rest⟩
  · exact .inl hh
  · refine .inr ⟨g, cap, cur, rfl, hb', ?_, rest⟩
    rw [ht.block g (Array.getElem?_eq_some_iff.1 hgg).1 (hn g rfl)]; exact hgg
/-- Two rows of different types are apart. -/
theorem own_type {w : World} {B : Nat} {e : TypeId} {size : Nat} {v : Value} {n : Nat} {xs : List Value} (h : w.ownsRow B e size v n xs) {k : Nat} (hk : v.ownBlock = some k) : ∃ cur, w.heap[k]? = some (.cells cur e (0, 0)) := by
  rcases h.2 with ⟨rfl, _⟩ | ⟨g, cap, cur, rfl, hb', hgg, rest⟩
  · cases hk
  · obtain rfl : g = k := by simpa [Value.ownBlock] using hk
    exact ⟨cur, hgg⟩

theorem IsRef.kept {w w' : World} {B p : Nat} {hv wv : Value} {D : St} (h : IsRef w B p hv wv D) {T : Nat → Prop} (ht : Touch T w w') (hp : ¬ T p) (hh : ∀ k, hv.ownBlock = some k → ¬ T k) (hw : ∀ k, wv.ownBlock = some k → ¬ T k) : IsRef w' B p hv wv D := by
  refine ⟨?_, own_kept h.held ht hh, own_kept h.wait ht hw, h.places, h.low, h.size, h.good, h.goodW⟩
  rw [ht.block p (Array.getElem?_eq_some_iff.1 h.box).1 hp]; exact h.box
theorem IsRef.adds {w w' : World} {B p : Nat} {hv wv : Value} {D : St} (h : IsRef w B p hv wv D) (ht : Adds w w') : IsRef w' B p hv wv D := h.kept ht id (fun _ _ => id) (fun _ _ => id)
/-- Its blocks are apart. -/
theorem IsRef.ne {w : World} {B p : Nat} {hv wv : Value} {D : St} (h : IsRef w B p hv wv D) : (∀ k, hv.ownBlock = some k → k ≠ p) ∧ (∀ k, wv.ownBlock = some k → k ≠ p) ∧ (∀ k j, hv.ownBlock = some k → wv.ownBlock = some j → k ≠ j) := by
  refine ⟨fun k hk e => ?_, fun k hk e => ?_, fun k j hk hj e => ?_⟩
  · subst e; obtain ⟨c, hc⟩ := own_type h.held hk; rw [h.box] at hc; simp at hc
  · subst e; obtain ⟨c, hc⟩ := own_type h.wait hk; rw [h.box] at hc; simp at hc
  · subst e; obtain ⟨c, hc⟩ := own_type h.held hk; obtain ⟨c', hc'⟩ := own_type h.wait hj; rw [hc] at hc'; simp at hc'
/-- A block of another kind is none of its. -/
theorem IsRef.apart {w : World} {B p : Nat} {hv wv : Value} {D : St} (h : IsRef w B p hv wv D) {k : Nat} {o : Obj} (hk : w.heap[k]? = some o) (ho : ∀ c, o ≠ .cells c 70 (0, 0) ∧ o ≠ .cells c 9 (0, 0) ∧ o ≠ .cells c 78 (0, 0)) : k ≠ p ∧ hv.ownBlock ≠ some k ∧ wv.ownBlock ≠ some k := by
  refine ⟨fun e => ?_, fun e => ?_, fun e => ?_⟩
  · subst e; rw [h.box] at hk; exact (ho _).1 (by simpa using hk.symm)
  · obtain ⟨c, hc⟩ := own_type h.held e; rw [hc] at hk; exact (ho _).2.1 (by simpa using hk.symm)
  · obtain ⟨c, hc⟩ := own_type h.wait e; rw [hc] at hk; exact (ho _).2.2 (by simpa using hk.symm)
/-- The slice of what is held, and where its cells lie. -/
theorem IsRef.heldAt {w : World} {B p : Nat} {hv wv : Value} {D : St} (h : IsRef w B p hv wv D) : ∃ g cap, hv = .slice (some ⟨g, 0, none⟩) D.size.toNat cap ∧ D.size.toNat ≤ cap ∧ g < w.heap.size ∧
    (∀ i, i < D.size.toNat → w.cell? ⟨g, i, none⟩ = some (Str (D.H (i : Int)))) ∧ (∀ i, w.frozen? ⟨g, i, none⟩ = false) := by
  have hs := h.size
  rcases h.held.2 with ⟨e, hn⟩ | ⟨g, cap, cur, e, _, hgg, hnc, _⟩
  · omega
  · have hh := h.held
    rw [e] at hh
    refine ⟨g, cap, e, hnc, (Array.getElem?_eq_some_iff.1 hgg).1, fun i hi => ?_, fun i => hh.frozenAt i⟩
    rw [hh.cellAt i (by omega), strs_get _ _ _ hi]
theorem IsRef.waitAt {w : World} {B p : Nat} {hv wv : Value} {D : St} (h : IsRef w B p hv wv D) : ∃ ao cap, wv = .slice ao D.W.length cap ∧ D.W.length ≤ cap ∧
    (0 < D.W.length → ∃ g, ao = some ⟨g, 0, none⟩ ∧ g < w.heap.size ∧ (∀ k (hk : k < D.W.length), w.cell? ⟨g, k * 2, none⟩ = some (.int .i64 D.W[k].1) ∧ w.cell? ⟨g, k * 2 + 1, none⟩ = some (Str D.W[k].2)) ∧ (∀ i, w.frozen? ⟨g, i, none⟩ = false)) := by
  rcases h.wait.2 with ⟨e, hn⟩ | ⟨g, cap, cur, e, _, hgg, hnc, _⟩
  · exact ⟨none, 0, by rw [e, hn], by omega, fun h0 => by omega⟩
  · have hh := h.wait
    rw [e] at hh
    refine ⟨some ⟨g, 0, none⟩, cap, e, hnc, fun _ => ⟨g, rfl, (Array.getElem?_eq_some_iff.1 hgg).1, fun k hk => ⟨?_, ?_⟩, fun i => hh.frozenAt i⟩⟩
    · have := rflat_get D.W k hk 0 (by omega)
      rw [Nat.add_zero] at this
      rw [hh.cellAt (k * 2) (by omega), this]; rfl
    · rw [hh.cellAt (k * 2 + 1) (by omega), rflat_get D.W k hk 1 (by omega)]; rfl

theorem conv_bytes (w : World) (g cap n : Nat) (bs : List UInt8) (hn : bs.length = n) (h : ∀ j b, bs[j]? = some b → w.cell? ⟨g, j, none⟩ = some (.int .u8 (b.toNat : Int))) : (convert 36 9 (.slice (some ⟨g, 0, none⟩) n cap)).run Try.prog w = .ok (Str bs) w := by
  subst hn
  refine run_convert_bytes_back w 36 9 5 ⟨g, 0, none⟩ cap bs Try.underlying36 Try.underlying5 Try.underlying9 (fun j hj => ?_)
  rw [Addr.add_mid, Nat.zero_add]
  exact h j _ (by rw [List.getElem?_eq_getElem hj])

set_option maxHeartbeats 400000 in
theorem zero_any (w : World) : Calls Try.prog 28 #[] w fun e w' => e = .returned (Str zeros) ∧ Adds w w' := by
  have hmk := make256
  have hcv := conv_bytes (w.alloc (.cells (S zeros).toArray 5)) w.heap.size 256 256 zeros length_zeros (fun j b hb => by rw [cellOf (heap_alloc_new w _)]; simp only [List.getElem?_toArray, S_get, hb]; rfl)
  go_enter Try.func28, Try.ntmps28
  go_wp2
  go_ret
  exact ⟨rfl, (Touch.refl _ w).alloc _⟩

set_option maxHeartbeats 400000 in
theorem rstep_any (b : Nat) (x0 x1 : Value) (s l : Int) (w : World) (hb : w.heap[b]? = some (.cells #[x0, x1, .int .i64 s, .int .i64 l] 70 (0, 0))) (h0 : 0 ≤ s) (h1 : s < 1000000) (h2 : -1 ≤ l) (h3 : l ≤ 9223372036854775807) :
    Calls Try.prog 33 #[.pointer (some ⟨b, 0, none⟩)] w fun e w' => e = .returned (.tuple #[]) ∧ w' = w.setRow b #[x0, x1, .int .i64 (s + 1), .int .i64 (less l)] := by
  have c3 : w.cell? ⟨b, 2, none⟩ = some (.int .i64 s) := cellOf hb 2
  have c4 : w.cell? ⟨b, 3, none⟩ = some (.int .i64 l) := cellOf hb 3
  have f3 : w.frozen? ⟨b, 2, none⟩ = false := frozen_of_row w b 2 _ 70 hb
  have f4 : w.frozen? ⟨b, 3, none⟩ = false := frozen_of_row w b 3 _ 70 hb
  have e1 : w.setCell ⟨b, 2, none⟩ (.int .i64 (s + 1)) = w.setRow b #[x0, x1, .int .i64 (s + 1), .int .i64 l] := setCell_eq_setRow w b 2 _ 70 _ _ hb
  have e2 : (w.setCell ⟨b, 2, none⟩ (.int .i64 (s + 1))).setCell ⟨b, 3, none⟩ (.int .i64 (l - 1)) = w.setRow b #[x0, x1, .int .i64 (s + 1), .int .i64 (l - 1)] := by
    rw [e1, setCell_eq_setRow _ b 3 _ 70 _ _ (setRow_heap w b _ _ 70 _ hb), setRow_setRow]; rfl
  have E1 : Hid (w.setCell ⟨b, 2, none⟩ (.int .i64 (s + 1)) = w.setRow b #[x0, x1, .int .i64 (s + 1), .int .i64 l]) := e1
  have E2 : Hid ((w.setCell ⟨b, 2, none⟩ (.int .i64 (s + 1))).setCell ⟨b, 3, none⟩ (.int .i64 (l - 1)) = w.setRow b #[x0, x1, .int .i64 (s + 1), .int .i64 (l - 1)]) := e2
  clear e1 e2 hb
  by_cases h : 0 < l
  · go_enter Try.func33, Try.ntmps33
    go_wp2
    go_end0
    exact ⟨rfl, by rw [E2.out, less, if_pos h]⟩
  · go_enter Try.func33, Try.ntmps33
    go_wp2
    go_end0
    exact ⟨rfl, by rw [E1.out, less, if_neg (by omega)]⟩

set_option maxHeartbeats 400000 in
theorem rnew_no (n : Int) (w : World) (h : n < 1 ∨ 4096 < n) : Calls Try.prog 9 #[.int .i64 n] w fun e w' => e = .returned (.tuple #[.pointer none, .int .i64 2]) ∧ w' = w := by
  by_cases h1 : n < 1
  · go_enter Try.func9, Try.ntmps9
    go_wp2
    go_ret2
    exact ⟨rfl, rfl⟩
  · have h2 : 4096 < n := by omega
    go_enter Try.func9, Try.ntmps9
    go_wp2
    go_ret2
    exact ⟨rfl, rfl⟩

/-- What the reference's Cut leaves. -/
def PRCut (w : World) (B p : Nat) (hv wv : Value) (D : St) (n : Int) (e : Ending) (w' : World) : Prop := e = .returned (.int .i64 0) ∧ IsRef w' B p hv wv (D.cut n) ∧ Touch (fun k => k = p) w w'

theorem IsRef.setLeft {w : World} {B p : Nat} {hv wv : Value} {D : St} (hd : IsRef w B p hv wv D) (n : Int) : IsRef (w.setCell ⟨p, 3, none⟩ (.int .i64 n)) B p hv wv { D with left := n } := by
  have hT : Touch (fun k => k = p) w (w.setCell ⟨p, 3, none⟩ (.int .i64 n)) := Touch.setCell (T := fun k => k = p) (Touch.refl _ w) (fun _ => rfl) _
  exact ⟨heap_setCell_same w p 3 _ 70 _ hd.box, own_kept hd.held hT hd.ne.1, own_kept hd.wait hT hd.ne.2.1, hd.places, hd.low, hd.size, hd.good, hd.goodW⟩

set_option maxHeartbeats 400000 in
theorem rcut_bad (p : Nat) (n : Int) (w : World) (hn : n < 0) :
    Calls Try.prog 17 #[.pointer (some ⟨p, 0, none⟩), .int .i64 n] w fun e w' => e = .returned (.int .i64 2) ∧ w' = w := by
  go_enter Try.func17, Try.ntmps17
  go_wp2
  go_ret
  exact ⟨rfl, rfl⟩

set_option maxHeartbeats 400000 in
theorem rcut_ok (B p : Nat) (hv wv : Value) (D : St) (n : Int) (w : World) (hd : IsRef w B p hv wv D) (hn : 0 ≤ n) :
    Calls Try.prog 17 #[.pointer (some ⟨p, 0, none⟩), .int .i64 n] w (PRCut w B p hv wv D n) := by
  have hn' : ¬ n < 0 := by omega
  have c4 : w.cell? ⟨p, 3, none⟩ = some (.int .i64 D.left) := cellOf hd.box 3
  have f4 : w.frozen? ⟨p, 3, none⟩ = false := frozen_of_row w p 3 _ 70 hd.box
  have HD := hid hd
  clear hd
  by_cases h : D.left = 0
  · have d3 : (D.left == 0) = true := by simp [h]
    have HH := hid h
    clear h
    go_enter Try.func17, Try.ntmps17
    go_wp2
    go_ret
    refine ⟨rfl, ?_, Touch.refl _ _⟩
    have : D.cut n = D := by cases D; simp only [St.cut]; simp only at HH; rw [if_pos HH.out]; rw [HH.out]
    rw [this]; exact HD.out
  · have d3 : (D.left == 0) = false := by simp [h]
    have HH := hid h
    clear h
    go_enter Try.func17, Try.ntmps17
    go_wp2
    go_ret
    refine ⟨rfl, ?_, Touch.setCell (T := fun k => k = p) (Touch.refl _ w) (fun _ => rfl) _⟩
    have : D.cut n = { D with left := n } := by simp only [St.cut]; rw [if_neg HH.out]
    rw [this]; exact HD.out.setLeft n

end Go.Proofs.Ytjjknckcodhnmaa
