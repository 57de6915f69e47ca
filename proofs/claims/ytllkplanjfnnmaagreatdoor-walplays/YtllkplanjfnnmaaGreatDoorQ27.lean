/- Texts put together: WDMath, WLaw. -/
import Derived.Test.YtllkplanjfnnmaaGreatDoorQ21
import Derived.Test.YtllkplanjfnnmaaGreatDoorQ26
/- Writes that a disk takes, one behind the other. -/
namespace Go.Proofs.YtllkplanjfnnmaaGreatDoor

/-- k writes, from number i on. -/
def wroteN (D : dSt) (f : Nat → Int × List UInt8) (i : Nat) : Nat → dSt
  | 0 => D
  | k + 1 => (wroteN D f i k).wrote (f (i + k)).1 (f (i + k)).2
theorem wroteN_W (D : dSt) (f : Nat → Int × List UInt8) (i : Nat) : ∀ k, (wroteN D f i k).W = D.W ++ (List.range k).map (fun j => f (i + j))
  | 0 => by simp [wroteN]
  | k + 1 => by
    show (wroteN D f i k).W ++ [((f (i + k)).1, (f (i + k)).2)] = _
    rw [wroteN_W D f i k, List.range_succ, List.map_append, List.append_assoc]; rfl
theorem wroteN_H (D : dSt) (f : Nat → Int × List UInt8) (i : Nat) : ∀ k, (wroteN D f i k).H = D.H
  | 0 => rfl
  | k + 1 => wroteN_H D f i k
theorem wroteN_size (D : dSt) (f : Nat → Int × List UInt8) (i : Nat) : ∀ k, (wroteN D f i k).size = D.size
  | 0 => rfl
  | k + 1 => wroteN_size D f i k
theorem wroteN_steps (D : dSt) (f : Nat → Int × List UInt8) (i : Nat) : ∀ k, (wroteN D f i k).steps = D.steps + k
  | 0 => by simp [wroteN]
  | k + 1 => by
    show (wroteN D f i k).steps + 1 = _
    rw [wroteN_steps D f i k]; omega
theorem wroteN_uncut {D : dSt} (f : Nat → Int × List UInt8) (i : Nat) (h : D.left = -1) : ∀ k, (wroteN D f i k).left = -1
  | 0 => h
  | k + 1 => by
    show less (wroteN D f i k).left = _
    rw [wroteN_uncut f i h k]; rfl
theorem wroteN_cut {D : dSt} (f : Nat → Int × List UInt8) (i : Nat) : ∀ k : Nat, (k : Int) ≤ D.left → (wroteN D f i k).left = D.left - k
  | 0, _ => by simp [wroteN]
  | k + 1, h => by
    show less (wroteN D f i k).left = _
    rw [wroteN_cut f i k (by omega), less, if_pos (by omega)]; omega
theorem wroteN_shift (D : dSt) (f : Nat → Int × List UInt8) (i : Nat) : ∀ k, wroteN (D.wrote (f i).1 (f i).2) f (i + 1) k = wroteN D f i (k + 1)
  | 0 => rfl
  | k + 1 => by
    show (wroteN (D.wrote (f i).1 (f i).2) f (i + 1) k).wrote (f (i + 1 + k)).1 (f (i + 1 + k)).2 = (wroteN D f i (k + 1)).wrote (f (i + (k + 1))).1 (f (i + (k + 1))).2
    rw [wroteN_shift D f i k, show i + 1 + k = i + (k + 1) by omega]
/-- All writes, and the sync. -/
theorem goW_all {f : Nat → Int × List UInt8} : ∀ {r i : Nat} {D : dSt}, (D.left = -1 ∨ (r : Int) < D.left) → goW f r i D = (0, (wroteN D f i r).synced)
  | 0, i, D, h => by
    rw [goW, if_neg (by omega)]; rfl
  | r + 1, i, D, h => by
    rw [goW, if_neg (by omega), goW_all (r := r) (i := i + 1), wroteN_shift]
    show less D.left = -1 ∨ (r : Int) < less D.left
    unfold less
    rcases h with h | h
    · rw [h]; exact .inl rfl
    · rw [if_pos (by omega)]; exact .inr (by omega)
set_option maxRecDepth 100000 in
/-- The power goes off on the way. -/
theorem goW_cut {f : Nat → Int × List UInt8} : ∀ {r i : Nat} {D : dSt}, 0 ≤ D.left → D.left ≤ r → goW f r i D = (10, wroteN D f i D.left.toNat)
  | 0, i, D, h0, h1 => by
    have h : D.left = 0 := by omega
    rw [goW, if_pos h, h]; rfl
  | r + 1, i, D, h0, h1 => by
    by_cases h : D.left = 0
    · rw [goW, if_pos h, h]; rfl
    · have hl : (D.wrote (f i).1 (f i).2).left = D.left - 1 := by
        show less D.left = _
        unfold less; rw [if_pos (by omega)]
      rw [goW, if_neg h, goW_cut (r := r) (i := i + 1) (by rw [hl]; omega) (by rw [hl]; omega), hl, wroteN_shift]
      rw [show (D.left - 1).toNat + 1 = D.left.toNat by omega]
end Go.Proofs.YtllkplanjfnnmaaGreatDoor

/- A log and its disk beside one another, in a law's memory; began, Body. -/
namespace Go.Proofs.YtllkplanjfnnmaaGreatDoor
open Go.RowKit

/-- A log over a disk; what is of the log is of OL, what is of the disk of OD; all is new since w0. -/
structure Wl (w0 w : World) (OL OD : Nat → Prop) (l p : Nat) (L : LS) (D : dSt) : Prop where
  log : IsLog w OL l p L
  disk : IsDO w OD p D
  apart : ∀ k, OL k → ¬ OD k
  low : ∀ k, OL k ∨ OD k → w0.heap.size ≤ k
  lt : ∀ k, OL k ∨ OD k → k < w.heap.size
  adds : Adds w0 w
theorem Wl.add {w0 w w' : World} {OL OD : Nat → Prop} {l p : Nat} {L : LS} {D : dSt} (h : Wl w0 w OL OD l p L D) (hA : Adds w w') : Wl w0 w' OL OD l p L D :=
  ⟨h.log.adds hA, h.disk.adds hA, h.apart, h.low, fun k q => Nat.lt_of_lt_of_le (h.lt k q) hA.size, h.adds.trans hA⟩
theorem Wl.touch {w0 w w' : World} {T OL OD : Nat → Prop} {l p : Nat} {L : LS} {D : dSt} (h : Wl w0 w OL OD l p L D) (hT : Touch T w w') (hn : ∀ k, T k → ¬ (OL k ∨ OD k) ∧ w0.heap.size ≤ k) : Wl w0 w' OL OD l p L D :=
  ⟨h.log.touch hT (fun k q c => (hn k c).1 (.inl q)), h.disk.touch hT (fun k q c => (hn k c).1 (.inr q)), h.apart, h.low, fun k q => Nat.lt_of_lt_of_le (h.lt k q) hT.size, h.adds.then hT (fun k hk c => by have := (hn k c).2; omega)⟩
/-- What a call of the law leaves. -/
def PWl (w0 w : World) (OL OD : Nat → Prop) (l p : Nat) (L : LS) (D : dSt) (v : Value) (e : Ending) (w' : World) : Prop := e = .returned v ∧ Hid (∃ OL' OD', Wl w0 w' OL' OD' l p L D ∧ Touch (fun k => OL k ∨ OD k) w w' ∧ ∀ k, OL' k ∨ OD' k → (OL k ∨ OD k) ∨ w.heap.size ≤ k)
set_option maxRecDepth 100000 in
theorem PApp.wl {w0 w w' : World} {OL OD : Nat → Prop} {l p : Nat} {L L' : LS} {D : dSt} {z : Int} {e : Ending} (hw : Wl w0 w OL OD l p L D) (h : PApp w OL l p L' z e w') : PWl w0 w OL OD l p L' D (.int .i64 z) e w' := by
  obtain ⟨he, O', h1, h2, h3⟩ := h
  have hs := h2.size
  have hw0 := hw.adds.size
  refine ⟨he, O', OD, ⟨h1, hw.disk.touch h2 (fun k q c => hw.apart k c q), fun k q => ?_, fun k q => ?_, fun k q => ?_, ?_⟩, h2.mono (fun k _ c => .inl c), fun k q => ?_⟩
  · rcases h3 k q with c | c
    · exact hw.apart k c
    · intro c'; have := hw.lt k (.inr c'); omega
  · rcases q with q | q
    · rcases h3 k q with c | c
      · exact hw.low k (.inl c)
      · omega
    · exact hw.low k (.inr q)
  · rcases q with q | q
    · rcases h3 k q with c | c
      · have := hw.lt k (.inl c); omega
      · exact c.2
    · have := hw.lt k (.inr q); omega
  · exact hw.adds.then h2 (fun k hk c => by have := hw.low k (.inl c); omega)
  · rcases q with q | q
    · rcases h3 k q with c | c
      · exact .inl (.inl c)
      · exact .inr c.1
    · exact .inl (.inr q)
set_option maxRecDepth 100000 in
theorem Wl.tab {w0 w : World} {OL OD : Nat → Prop} {l p : Nat} {L : LS} {D : dSt} (h : Wl w0 w OL OD l p L D) (hT : Tab w0) : Tab w ∧ ¬ OD 0 := by
  refine ⟨hT.adds h.adds, fun c => ?_⟩
  have h1 := h.low 0 (.inr c)
  have h2 := World.block_lt_of_cell? w0 _ (hT 0 (by decide))
  simp at h2
  omega
theorem wl_append {w0 w : World} {OL OD : Nat → Prop} {l p : Nat} {L : LS} {D : dSt} (h : Wl w0 w OL OD l p L D) (hk : L.Ok) (a : Option Addr) (bs : List UInt8) (n cap : Nat) (hn : bs.length = n) (hA : At w a bs) : Calls Tryz.prog 13 #[Ptr l, .slice a n cap] w (PWl w0 w OL OD l p (appL L bs) D (.int .i64 (appE L bs))) :=
  (lappend_any h.log hk a bs n cap hn hA).mono (fun _ _ q => q.wl h)
theorem wl_begin {w0 w : World} {OL OD : Nat → Prop} {l p : Nat} {L : LS} {D : dSt} (h : Wl w0 w OL OD l p L D) (e : Int) : Calls Tryz.prog 25 #[Ptr l, .int .i64 e] w (PWl w0 w OL OD l p (begL L e) D (.int .i64 (begE L e))) :=
  (begin_any h.log e).mono (fun _ _ q => q.wl h)
set_option maxRecDepth 100000 in
theorem wl_commit {w0 w : World} {OL OD : Nat → Prop} {l p : Nat} {L : LS} {D : dSt} {n0 : Nat} (h : Wl w0 w OL OD l p L D) (hk : L.Ok) (hdk : DOk D n0) (hn0 : n0 + L.ct ≤ 800) (hsz : L.fr + L.ct ≤ D.size) (hT : Tab w0) : Calls Tryz.prog 16 #[Ptr l] w (PWl w0 w OL OD l p (comL L D) (comD L D) (.int .i64 (comE L D))) := by
  refine (commit_any h.log h.disk h.apart h.lt hk hdk hn0 hsz (h.tab hT).1 (h.tab hT).2).mono ?_
  rintro e w' ⟨he, OL', OD', h1, h2, h3, h4, h5⟩
  have hs := h4.size
  have hw0 := h.adds.size
  refine ⟨he, OL', OD', ⟨h1, h2, h3, fun k q => ?_, fun k q => ?_, h.adds.then h4 (fun k hk c => by have := h.low k c; omega)⟩, h4, fun k q => ?_⟩
  · rcases h5 k q with c | c
    · exact h.low k c
    · omega
  · rcases h5 k q with c | c
    · have := h.lt k c; omega
    · exact c.2
  · rcases h5 k q with c | c
    · exact .inl c
    · exact .inr c.1
set_option maxRecDepth 100000 in
theorem wl_drop {w0 w : World} {OL OD : Nat → Prop} {l p : Nat} {L : LS} {D : dSt} (h : Wl w0 w OL OD l p L D) : Calls Tryz.prog 27 #[Ptr l] w (PWl w0 w OL OD l p { L with R := [] } D (.int .i64 (L.R.length : Int))) := by
  refine (drop_any h.log).mono ?_
  rintro e w' ⟨he, h1, h2⟩
  have ol : OL l := by obtain ⟨_, _, _, q⟩ := h.log; exact q.ol
  have q : PApp w OL l p { L with R := [] } (L.R.length : Int) e w' := ⟨he, OL, h1, h2.mono (fun k _ c => by subst c; exact ol), fun _ c => .inl c⟩
  exact q.wl h
set_option maxRecDepth 100000 in
theorem wl_waiting {w0 w : World} {OL OD : Nat → Prop} {l p : Nat} {L : LS} {D : dSt} (h : Wl w0 w OL OD l p L D) : Calls Tryz.prog 14 #[Ptr l] w (Tells (.int .i64 (L.R.length : Int)) w) := by
  obtain ⟨_, _, _, q⟩ := h.log
  exact waiting_any l _ w (cellOf q.box 7)
set_option maxRecDepth 100000 in
theorem wl_used {w0 w : World} {OL OD : Nat → Prop} {l p : Nat} {L : LS} {D : dSt} (h : Wl w0 w OL OD l p L D) : Calls Tryz.prog 18 #[Ptr l] w (Tells (.int .i64 (W.usedOf L.G : Int)) w) := by
  obtain ⟨_, _, _, q⟩ := h.log
  exact used_any l _ w (cellOf q.box 6)
set_option maxRecDepth 100000 in
theorem wl_room {w0 w : World} {OL OD : Nat → Prop} {l p : Nat} {L : LS} {D : dSt} (h : Wl w0 w OL OD l p L D) (hk : L.Ok) : Calls Tryz.prog 19 #[Ptr l] w (Adding (.int .i64 ((L.ct : Int) - (W.usedOf L.G : Int))) w) := by
  obtain ⟨_, _, _, q⟩ := h.log
  have := hk.us
  have := hk.ct
  exact lroom_any l _ _ w (cellOf q.box 2) (cellOf q.box 6) (by omega) (by omega) (by omega)
set_option maxRecDepth 100000 in
theorem wl_steps {w0 w : World} {OL OD : Nat → Prop} {l p : Nat} {L : LS} {D : dSt} (h : Wl w0 w OL OD l p L D) (hs : 0 < D.size) : Calls Tryz.prog 15 #[Ptr p] w (Tells (.int .i64 D.steps) w) := by
  obtain ⟨hb, wv, hd, _⟩ := h.disk
  exact steps_any p D.size D.steps w (cellOf hd.box 0) (cellOf hd.box 3) hs
/-- What began tells. -/
def PBeg (w : World) (n : Nat) (e : Ending) (w' : World) : Prop := ∃ l p, e = .returned (.tuple #[Ptr p, Ptr l]) ∧ Hid (∃ OL OD, Wl w w' OL OD l p ⟨1, n, 2, false, [], []⟩ (dSt.new ((n : Int) + 1)))
theorem dnew_ok (n : Int) (k : Nat) (h : 0 < n) : DOk (dSt.new n) k := ⟨Nat.zero_le _, Int.le_refl _, by show (0 : Int) ≤ k; omega, Int.le_refl _, by show (-1 : Int) ≤ _; decide, h⟩
set_option maxRecDepth 100000 in
theorem find_new (e n : Nat) (m : Int) (fr : Nat) : W.find e (secOf (dSt.new m) fr) n 0 [] [] 0 = ([], 0) := by
  have hz : secOf (dSt.new m) fr 0 = List.replicate 256 0 := by unfold secOf hasOf; rfl
  exact W.find_bad (by rw [hz]; exact W.zeros_bad e 0) [] [] 0 n
set_option maxRecDepth 100000 in
theorem beg_wl {w w1 w2 : World} {OD : Nat → Prop} {l p : Nat} {L : LS} {D : dSt} (hA : Adds w w1) (hD : IsDO w1 OD p D) (hL : ∀ k, OD k → w.heap.size ≤ k ∧ k < w1.heap.size) (h2 : IsLog w2 (fun k => w1.heap.size ≤ k ∧ k < w2.heap.size) l p L ∧ Adds w1 w2) : ∃ OL OD, Wl w w2 OL OD l p L D := by
  have s1 := hA.size
  have s2 := h2.2.size
  refine ⟨_, OD, h2.1, hD.adds h2.2, fun k q c => ?_, fun k q => ?_, fun k q => ?_, hA.trans h2.2⟩
  · have := (hL k c).2; omega
  · rcases q with q | q
    · omega
    · exact (hL k q).1
  · rcases q with q | q
    · exact q.2
    · have := (hL k q).2; omega
set_option maxRecDepth 100000 in
set_option maxHeartbeats 2000000 in
theorem began_any (n : Nat) (h1 : 1 ≤ n) (h2 : n ≤ 100) (w : World) (hT : Tab w) : Calls Tryz.prog 12 #[.int .i64 (n : Int)] w (PBeg w n) := by
  have HN := hid (new_yes ((n : Int) + 1) w w.heap.size (Nat.le_refl _) (by omega) (by omega))
  have HO := hid (fun (w1 : World) (p : Nat) (OD : Nat → Prop) (hA : Adds w w1) (hD : IsDO w1 OD p (dSt.new ((n : Int) + 1))) (hO : ∀ k, OD k → k < w1.heap.size) => show Calls Tryz.prog 20 #[Ptr p, .int .i64 1, .int .i64 (n : Int), .int .i64 1] w1 (PLog w1 p ⟨1, n, 1, true, [], []⟩) by
    have q := open_ok hD (dnew_ok ((n : Int) + 1) 0 (by omega)) (by decide) (hT.adds hA) hO 1 n 1 h1 (by omega) (by show ((1 : Nat) : Int) + (n : Int) ≤ (n : Int) + 1; omega) (by decide) (by decide) (by show (n : Int) + 1 ≤ 4096; omega) (by show (-1 : Int) ≠ 0; decide)
    rw [find_new] at q
    exact q)
  have HOk2 := hid (show LS.Ok ⟨1, n, 1, true, [], []⟩ from ⟨by show 1 ≤ 4096; decide, by show n ≤ 10000; omega, by show 1 ≤ 1000000000; decide, Nat.zero_le _, fun c => absurd rfl c, fun g hg => (by cases hg)⟩)
  clear hT
  go_enter Tryz.func12, Tryz.ntmps12
  go_wp2_with (first
    | (go_at_call 4; refine HN.out.mono ?_; rintro e w1 ⟨p, hb, rfl, hp, hhb, hd, hA1⟩
       have HD1 := hid (show IsDO w1 (fun k => k = p ∨ k = hb) p (dSt.new ((n : Int) + 1)) from ⟨hb, _, hd.mono (Nat.zero_le _), .inl rfl, .inr rfl, fun k hk => (by cases hk)⟩)
       have HL1 := hid (show ∀ k, (k = p ∨ k = hb) → w.heap.size ≤ k ∧ k < w1.heap.size from fun k q => by
         have h1 := (Array.getElem?_eq_some_iff.1 hd.box).1
         obtain ⟨es, cl, h2, _⟩ := hd.held
         have h2 := (Array.getElem?_eq_some_iff.1 h2).1
         rcases q with rfl | rfl <;> omega)
       have HA1 := hid hA1
       clear hd hA1 hp hhb)
    | (go_at_call 20; refine (HO.out w1 p _ HA1.out HD1.out (fun k q => (HL1.out k q).2)).mono ?_; rintro e w2 ⟨l, rfl, H2⟩
       obtain ⟨OL2, OD2, hw2⟩ := beg_wl HA1.out HD1.out HL1.out H2.out
       have HW2 := hid hw2
       clear hw2)
    | (go_at_call 13; refine (show Calls Tryz.prog 13 #[Ptr l, .slice none 0 0] w2 (PWl w w2 OL2 OD2 l p ⟨1, n, 1, true, [], []⟩ (dSt.new ((n : Int) + 1)) (.int .i64 42)) from wl_append HW2.out HOk2.out none [] 0 0 rfl (At.nil _ _)).mono ?_; rintro e w3 ⟨rfl, H3⟩; obtain ⟨OL3, OD3, h3, _, _⟩ := H3.out; have HW3 := hid h3; clear h3 H3)
    | (go_at_call 25; refine (show Calls Tryz.prog 25 #[Ptr l, .int .i64 2] w3 (PWl w w3 OL3 OD3 l p ⟨1, n, 2, false, [], []⟩ (dSt.new ((n : Int) + 1)) (.int .i64 0)) from wl_begin HW3.out 2).mono ?_; rintro e w4 ⟨rfl, H4⟩; obtain ⟨OL4, OD4, h4, _, _⟩ := H4.out; have HW4 := hid h4; clear h4 H4))
  go_ret2
  exact ⟨l, p, rfl, OL4, OD4, HW4.out⟩

/-! ### Body -/
/-- A law's bytes. -/
def bodyB (c : UInt8) (n : Nat) : List UInt8 := (List.range n).map (fun i => UInt8.ofNat ((c.toNat + i % 13) % 256))
def bodyN (z : Int) : Nat := (z % 18446744073709551616).toNat % 700
def part_body (c : UInt8) (n k : Nat) : List UInt8 := bodyB c k ++ List.replicate (n - k) 0
set_option maxRecDepth 100000 in
theorem len_body (c : UInt8) (n : Nat) : (bodyB c n).length = n := by simp [bodyB]
set_option maxRecDepth 100000 in
theorem body_step (c : UInt8) (n k : Nat) (h : k < n) : (S (part_body c n k)).toArray.setIfInBounds k (.int .u8 (((c.toNat + k % 13) % 256 : Nat) : Int)) = (S (part_body c n (k + 1))).toArray := by
  have e : (((c.toNat + k % 13) % 256 : Nat) : Int) = ((UInt8.ofNat ((c.toNat + k % 13) % 256)).toNat : Int) := by rw [M.ofNat_toNat _ (by omega)]
  rw [e, S_put]
  congr 2
  unfold part_body
  rw [List.set_append_right _ _ (by rw [len_body]; exact Nat.le_refl _), len_body, Nat.sub_self, show n - k = (n - (k + 1)) + 1 by omega, List.replicate_succ, List.set_cons_zero]
  have e2 : bodyB c (k + 1) = bodyB c k ++ [UInt8.ofNat ((c.toNat + k % 13) % 256)] := by unfold bodyB; rw [List.range_succ, List.map_append]; rfl
  rw [e2, List.append_assoc]; rfl
/-- What Body tells: bytes in a block of their own. -/
def PBody8 (w : World) (bs : List UInt8) (e : Ending) (w' : World) : Prop := e = .returned (.slice (some ⟨w.heap.size, 0, none⟩) bs.length bs.length) ∧ Hid (w'.heap[w.heap.size]? = some (.cells (S bs).toArray 5 (0, 0)) ∧ Adds w w')
set_option maxRecDepth 100000 in
theorem makeN (n : Nat) (h : n ≤ 1000) (w : World) : (Instr.makeSlice 56 (.int .i64 (n : Int)) (.int .i64 (n : Int))).run Tryz.prog w = .ok (.slice (some ⟨w.heap.size, 0, none⟩) n n) (w.alloc (.cells (S (List.replicate n 0)).toArray 5)) := by
  obtain ⟨i0, hi, hz0, hz1, hz2⟩ := info5all
  have q := run_make (P := Tryz.prog) w 56 5 i0 (.int .u8 0) Tryz.underlying56 hi hz0 .i64 .i64 n n (by omega) (by omega) (by rw [hz2]; omega) (by omega)
  rw [q, hz1]
  simp only [madeCells, S, Int.toNat_natCast, Nat.mul_one]
  congr 3
  apply Array.ext
  · simp
  · intro i h1 h2; simp [Value.cells, Nat.mod_one]; rfl
end Go.Proofs.YtllkplanjfnnmaaGreatDoor
