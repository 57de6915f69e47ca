/- Texts put together: DLose, DWorks, DSync, DCut, DUn, DOwn. -/
import Derived.Test.YtokbiekdompaoaaDoorQ22
import Derived.Deep.DeepCutAuto
import Derived.Deep.LoopGhost
import Derived.Deep.Light
import Derived.Deep.QuietTactic
import Derived.BigQuiet
/- Lose. -/
namespace Go.Proofs.YtokbiekdompaoaaDoor
open Go.RowKit

/-- A loss as a value: which are kept, the one that is torn, and where. -/
def lossV (ka : Option Addr) (kn kc : Nat) (torn at_ : Int) : Value := .agg #[.slice ka kn kc, .int .i64 torn, .int .i64 at_]
/-- Where the kept marks lie. -/
def KeptAt (w : World) (ka : Option Addr) (ks : List Bool) : Prop := ∀ j (h : j < ks.length), ∃ b o, ka = some ⟨b, o, none⟩ ∧ w.cell? ⟨b, o + j, none⟩ = some (.bool ks[j])

/-- One waiting write, at a loss. -/
def loseOne (ks : List Bool) (torn at_ : Int) (k : Nat) (x : Int × List UInt8) (H : Int → List UInt8) : Int → List UInt8 :=
  if (k : Int) = torn then upd H x.1 (x.2.take at_.toNat ++ (H x.1).drop at_.toNat) else if ks.getD k false = true then upd H x.1 x.2 else H
/-- What is held behind the first k waiting writes, at a loss. -/
def loseTo (H : Int → List UInt8) (W : List (Int × List UInt8)) (ks : List Bool) (torn at_ : Int) : Nat → Int → List UInt8
  | 0 => H
  | k + 1 => match W[k]? with
    | some x => loseOne ks torn at_ k x (loseTo H W ks torn at_ k)
    | none => loseTo H W ks torn at_ k
set_option maxRecDepth 100000 in
theorem lose_torn {H : Int → List UInt8} {W : List (Int × List UInt8)} {ks : List Bool} {torn at_ : Int} {k : Nat} {x : Int × List UInt8} (hW : W[k]? = some x) (ht : (k : Int) = torn) :
    loseTo H W ks torn at_ (k + 1) = upd (loseTo H W ks torn at_ k) x.1 (x.2.take at_.toNat ++ (loseTo H W ks torn at_ k x.1).drop at_.toNat) := by
  rw [loseTo, hW]; simp only [loseOne, if_pos ht]
set_option maxRecDepth 100000 in
theorem lose_kept {H : Int → List UInt8} {W : List (Int × List UInt8)} {ks : List Bool} {torn at_ : Int} {k : Nat} {x : Int × List UInt8} (hW : W[k]? = some x) (ht : ¬ (k : Int) = torn) (hk : ks.getD k false = true) :
    loseTo H W ks torn at_ (k + 1) = upd (loseTo H W ks torn at_ k) x.1 x.2 := by
  rw [loseTo, hW]; simp only [loseOne, if_neg ht, if_pos hk]
set_option maxRecDepth 100000 in
theorem lose_left {H : Int → List UInt8} {W : List (Int × List UInt8)} {ks : List Bool} {torn at_ : Int} {k : Nat} {x : Int × List UInt8} (hW : W[k]? = some x) (ht : ¬ (k : Int) = torn) (hk : ks.getD k false = false) :
    loseTo H W ks torn at_ (k + 1) = loseTo H W ks torn at_ k := by
  rw [loseTo, hW]; simp only [loseOne, if_neg ht, hk]; rfl
/-- The state of the disk behind a loss. -/
def dSt.lost (D : dSt) (ks : List Bool) (torn at_ : Int) : dSt := { size := D.size, H := loseTo D.H D.W ks torn at_ D.W.length, W := [], steps := 0, left := -1 }

set_option maxRecDepth 100000 in
theorem wp_copy_row {P : Program} {w : World} {o : Oper} {a : Act} {K : Act → World → Prop} {Q : Exit → Act → World → Prop} (d s : Operand) (dT sT : TypeId)
    (ho : o.op = .call { callee := .builtin .copy, args := #[d, s], argTypes := #[dT, sT] }) (elem : TypeId) (hu : P.underlying dT = some (.slice elem)) (hsz : (P.info? elem).map (·.size) = some 1)
    (g off dLen dCap : Nat) (ad : Addr) (sLen sCap : Nat) (hd : a.eval d = .slice (some ⟨g, off, none⟩) dLen dCap) (hs : a.eval s = .slice (some ad) sLen sCap)
    (cur : Array Value) (t : TypeId) (hg : w.heap[g]? = some (.cells cur t (0, 0))) (cs : List Value) (hn : cs.length = Nat.min sLen dLen)
    (hsrc : ∀ j v, cs[j]? = some v → w.cell? (ad.add j) = some v) (hfit : off + cs.length ≤ cur.size) (h1 : ∀ v ∈ cs, v.oneCell' = true)
    (h : K (a.put o.dst (goInt cs.length)) (w.setRow g (cur.toList.take off ++ cs ++ cur.toList.drop (off + cs.length)).toArray)) : o.wp P a w K Q := by
  have hrun := run_copy_row P w dT sT o.type elem g off dLen dCap ad sLen sCap cur t cs hu hsz hg hn hsrc hfit h1
  unfold Oper.wp execOp
  simp only [ho, resolve, invoke, builtin, Sem.run_bind, Sem.run_pure, Result.andThen_ok, List.map_toArray, List.map_cons, List.map_nil, hd, hs, hrun]
  exact h

theorem dadds_drewN (w : World) (n : Nat) : Adds w (w.drewN n) ∧ (w.drewN n).heap = w.heap := ⟨⟨rfl, rfl, rfl, Nat.le_refl _, fun _ _ _ => rfl⟩, rfl⟩
set_option maxRecDepth 100000 in
theorem cell_heap {w w' : World} (h : w'.heap = w.heap) (a : Addr) : w'.cell? a = w.cell? a := by simp [World.cell?, h]

set_option maxRecDepth 100000 in
theorem IsDisk.mono {w : World} {B C p hb : Nat} {wv : Value} {D : dSt} (h : IsDisk w C p hb wv D) (hB : B ≤ C) : IsDisk w B p hb wv D := by
  refine ⟨h.box, h.held, ⟨h.wait.1, ?_⟩, h.good, h.goodW, by have := h.low.1; omega, by have := h.low.2; omega⟩
  rcases h.wait.2 with hn | ⟨g, cap, cur, e, hb', rest⟩
  · exact .inl hn
  · exact .inr ⟨g, cap, cur, e, by omega, rest⟩

/-- What Lose tells, and leaves. -/
def PLose (w : World) (B : Nat) (D' : dSt) (e : Ending) (w' : World) : Prop := ∃ p hb, e = .returned (.tuple #[.pointer (some ⟨p, 0, none⟩), .int .i64 0]) ∧ w.heap.size ≤ p ∧ w.heap.size ≤ hb ∧ IsDisk w' B p hb (.slice none 0 0) D' ∧ Adds w w'

end Go.Proofs.YtokbiekdompaoaaDoor

/- works: the chapter's example. -/
namespace Go.Proofs.YtokbiekdompaoaaDoor
open Go.RowKit

/-- What Read tells, in the caller's words. -/
def PReads (w : World) (bs : List UInt8) (e : Ending) (w' : World) : Prop := ∃ g cap, e = .returned (.tuple #[.slice (some ⟨g, 0, none⟩) 256 cap, .int .i64 0]) ∧ (∀ j b, bs[j]? = some b → w'.cell? ⟨g, j, none⟩ = some (.int .u8 (b.toNat : Int))) ∧ w.heap.size ≤ g ∧ g < w'.heap.size ∧ Adds w w'
set_option maxRecDepth 100000 in
theorem dPRead.reads {w : World} {bs : List UInt8} {e : Ending} {w' : World} (h : dPRead w bs e w') : PReads w bs e w' := by
  obtain ⟨v, rfl, hown, hv, hA⟩ := h
  rcases hown.2 with ⟨c, _⟩ | ⟨g, cap, cur, rfl, hg, hh, _⟩
  · exact absurd c hv
  · refine ⟨g, cap, rfl, fun j b hb => ?_, hg, (Array.getElem?_eq_some_iff.1 hh).1, hA⟩
    have hl : (S bs).length = 256 := hown.1
    have hj : j < bs.length := (List.getElem?_eq_some_iff.1 hb).1
    rw [length_S] at hl
    rw [hown.cellAt j (by omega), S_get, hb]; rfl

/-- The state with one write of ones to sector 1. -/
def D1 : dSt := (dSt.new 3).wrote 1 (sec 1)
theorem sec_len (c : UInt8) : (sec c).length = 256 := List.length_replicate
set_option maxRecDepth 100000 in
theorem sec_get (c : UInt8) (j : Nat) (h : j < 256) : (sec c)[j]? = some c := by
  unfold sec; rw [List.getElem?_replicate, if_pos h]
theorem zeros_get (j : Nat) (h : j < 256) : zeros[j]? = some 0 := sec_get 0 j h

set_option maxRecDepth 100000 in
theorem d1_none : (D1.lost [] (-1) 0).H 1 = zeros := by
  show loseTo D1.H D1.W [] (-1) 0 D1.W.length 1 = zeros
  rw [show D1.W.length = 0 + 1 from rfl, lose_left (W := D1.W) (x := (1, sec 1)) rfl (by decide) rfl]; rfl
set_option maxRecDepth 100000 in
theorem d1_kept : (D1.lost [true] (-1) 0).H 1 = sec 1 := by
  show loseTo D1.H D1.W [true] (-1) 0 D1.W.length 1 = sec 1
  rw [show D1.W.length = 0 + 1 from rfl, lose_kept (W := D1.W) (x := (1, sec 1)) rfl (by decide) rfl]; simp [upd]
set_option maxRecDepth 100000 in
theorem d1_torn : (D1.lost [] 0 2).H 1 = (sec 1).take 2 ++ zeros.drop 2 := by
  show loseTo D1.H D1.W [] 0 2 D1.W.length 1 = _
  rw [show D1.W.length = 0 + 1 from rfl, lose_torn (W := D1.W) (x := (1, sec 1)) (torn := 0) (k := 0) rfl rfl]
  show upd _ 1 _ 1 = _
  rw [upd, if_pos rfl]; rfl

theorem bytes_range {w : World} {g : Nat} {bs : List UInt8} (h : dBytes w g bs) : w.rangeAt g 0 (S bs) := rangeAt_row h
theorem kept_nil (w : World) (ka : Option Addr) : KeptAt w ka [] := fun j h => absurd h (by simp)
theorem dSt.new_steps (n : Int) : (dSt.new n).steps = 0 := rfl

end Go.Proofs.YtokbiekdompaoaaDoor

/- Sync. -/
namespace Go.Proofs.YtokbiekdompaoaaDoor
open Go.RowKit

/-- What is held behind a sync of W. -/
def syncH (H : Int → List UInt8) (W : List (Int × List UInt8)) : Int → List UInt8 := W.foldl (fun H x => upd H x.1 x.2) H
theorem syncH_has (i : Int) : ∀ (W : List (Int × List UInt8)) (H : Int → List UInt8), syncH H W i = hasOf H W i
  | [], _ => rfl
  | x :: W, H => by
    have ih := syncH_has i W (upd H x.1 x.2)
    simp only [syncH, hasOf, List.foldl_cons] at ih ⊢
    rw [ih]
    congr 1
    unfold upd
    by_cases h : i = x.1
    · rw [if_pos h, if_pos h.symm]
    · rw [if_neg h, if_neg (Ne.symm h)]
set_option maxRecDepth 100000 in
theorem syncH_snoc (H : Int → List UInt8) (W : List (Int × List UInt8)) (k : Nat) (h : k < W.length) : syncH H (W.take (k + 1)) = upd (syncH H (W.take k)) W[k].1 W[k].2 := by
  unfold syncH
  rw [List.take_succ_eq_append_getElem h, List.foldl_append]; rfl

/-- The state behind a sync. -/
def dSt.synced (D : dSt) : dSt := { D with H := syncH D.H D.W, W := [], steps := D.steps + 1, left := less D.left }
/-- What Sync leaves. -/
def PSync (w : World) (B p hb : Nat) (D : dSt) (e : Ending) (w' : World) : Prop := e = .returned (.int .i64 0) ∧ IsDisk w' B p hb (.slice none 0 0) D.synced ∧ Touch (fun k => k = p ∨ k = hb) w w'

set_option maxRecDepth 100000 in
/-- The memory's side of a sync's end: the slice is nil, one step more. -/
theorem sync_mem {w : World} {B p hb : Nat} {wv : Value} {D : dSt} (hd : IsDisk w B p hb wv D) (s l : Int) :
    IsDisk ((w.setCell ⟨p, 2, none⟩ (.slice none 0 0)).setRow p #[.int .i64 D.size, .map (some hb), .slice none 0 0, .int .i64 s, .int .i64 l]) B p hb (.slice none 0 0) { D with W := [], steps := s, left := l } := by
  obtain ⟨es, clock, h1, h2⟩ := hd.held
  have hne := hd.ne.1
  refine ⟨setRow_heap _ p _ _ 62 _ (heap_setCell_same w p 2 _ 62 _ hd.box), ⟨es, clock, ?_, h2⟩, World.ownsRow_nil _ _ _ _, hd.good, fun x hx => (by cases hx), hd.low⟩
  rw [setRow_other _ p hb _ (Ne.symm hne), heap_setCell_other _ _ _ _ (Ne.symm hne)]; exact h1

/-- What a write, or a sync, turns of a disk whose blocks are new, is new. -/
theorem adds_write {w w2 w3 : World} {p hb : Nat} {wv : Value} {D : dSt} (hA : Adds w w2) (hd : IsDisk w2 w.heap.size p hb wv D) (hT : Touch (fun k => k = p ∨ wv.ownBlock = some k) w2 w3) : Adds w w3 :=
  hA.then hT (fun j hj c => by
    rcases c with rfl | c
    · have := hd.low.1; omega
    · have := (hd.wait.lt j c).1; omega)
theorem adds_sync {w w2 w3 : World} {p hb : Nat} {wv : Value} {D : dSt} (hA : Adds w w2) (hd : IsDisk w2 w.heap.size p hb wv D) (hT : Touch (fun k => k = p ∨ k = hb) w2 w3) : Adds w w3 :=
  hA.then hT (fun j hj c => by
    rcases c with rfl | rfl
    · have := hd.low.1; omega
    · have := hd.low.2; omega)

end Go.Proofs.YtokbiekdompaoaaDoor

/- Cut, Steps, Size; Write where the power is off, or where it is refused. -/
namespace Go.Proofs.YtokbiekdompaoaaDoor
open Go.RowKit

/-- The state behind a cut. -/
def dSt.cut (D : dSt) (n : Int) : dSt := { D with left := if D.left = 0 then 0 else n }
/-- What Cut leaves. -/
def dPCut (w : World) (B p hb : Nat) (wv : Value) (D : dSt) (n : Int) (e : Ending) (w' : World) : Prop := e = .returned (.int .i64 0) ∧ IsDisk w' B p hb wv (D.cut n) ∧ Touch (fun k => k = p) w w'

set_option maxRecDepth 100000 in
/-- A disk whose struct has turned in its last cell. -/
theorem IsDisk.setLeft {w : World} {B p hb : Nat} {wv : Value} {D : dSt} (hd : IsDisk w B p hb wv D) (n : Int) : IsDisk (w.setCell ⟨p, 4, none⟩ (.int .i64 n)) B p hb wv { D with left := n } := by
  obtain ⟨es, clock, h1, h2⟩ := hd.held
  have hne := hd.ne
  refine ⟨heap_setCell_same w p 4 _ 62 _ hd.box, ⟨es, clock, ?_, h2⟩, ?_, hd.good, hd.goodW, hd.low⟩
  · rw [heap_setCell_other _ _ _ _ (Ne.symm hne.1)]; exact h1
  · refine hd.wait.kept (row := some p) ⟨rfl, rfl, rfl, by simp, fun k _ hk => heap_setCell_other w _ k _ (fun e => hk (by rw [e]))⟩ ?_
    cases hv : wv.ownBlock with
    | none => exact .inl rfl
    | some k => exact .inr (fun e => (hne.2 k hv).2 (by simpa using e))

set_option maxRecDepth 100000 in
set_option maxHeartbeats 400000 in
theorem size_any (p : Nat) (n : Int) (w : World) (c0 : w.cell? ⟨p, 0, none⟩ = some (.int .i64 n)) (hn : 0 < n) :
    Calls Tryd.prog 21 #[.pointer (some ⟨p, 0, none⟩)] w fun e w' => e = .returned (.int .i64 n) ∧ w' = w := by
  have d1 : decide (0 < n) = true := by simpa using hn
  have m1 := made_any p n w c0
  rw [d1] at m1
  have M1 := hid m1
  clear m1 d1 hn
  go_enter Tryd.func21, Tryd.ntmps21
  go_wp2_with (go_at_call 33; refine M1.out.mono ?_; rintro e _ ⟨rfl, hw⟩; rw [hw])
  go_ret
  exact ⟨rfl, rfl⟩

end Go.Proofs.YtokbiekdompaoaaDoor

/- Disks that are nil, or that no call made: Sync, Cut, Spoil, Size, Steps, Pending. -/
namespace Go.Proofs.YtokbiekdompaoaaDoor
open Go.RowKit

set_option maxRecDepth 100000 in
set_option maxHeartbeats 400000 in
theorem size_un (x : Value) (w : World) (hu : Unmade w x) : Calls Tryd.prog 21 #[x] w fun e w' => e = .returned (.int .i64 0) ∧ w' = w := by
  go_enter Tryd.func21, Tryd.ntmps21
  go_wp2_with (go_at_call 33; refine (show Calls Tryd.prog 33 #[x] w _ from hu).mono ?_; rintro e w' ⟨rfl, rfl⟩)
  go_ret
  exact ⟨rfl, rfl⟩
/-- What a law tells: true, and nothing that was there has turned. -/
def PLaw (w : World) (e : Ending) (w' : World) : Prop := e = .returned (.bool true) ∧ Adds w w'

end Go.Proofs.YtokbiekdompaoaaDoor

/- A disk whose blocks have an owner: reads, writes, syncs by its state. -/
namespace Go.Proofs.YtokbiekdompaoaaDoor
open Go.RowKit

/-- A disk, all of whose blocks are of O. -/
def IsDO (w : World) (O : Nat → Prop) (p : Nat) (D : dSt) : Prop := ∃ hb wv, IsDisk w 0 p hb wv D ∧ O p ∧ O hb ∧ ∀ k, wv.ownBlock = some k → O k
theorem IsDO.touch {w w' : World} {O T : Nat → Prop} {p : Nat} {D : dSt} (h : IsDO w O p D) (hT : Touch T w w') (hn : ∀ k, O k → ¬ T k) : IsDO w' O p D := by
  obtain ⟨hb, wv, hd, h1, h2, h3⟩ := h
  exact ⟨hb, wv, hd.kept hT (hn _ h1) (hn _ h2) (fun k hk => hn k (h3 k hk)), h1, h2, h3⟩
theorem IsDO.adds {w w' : World} {O : Nat → Prop} {p : Nat} {D : dSt} (h : IsDO w O p D) (hT : Adds w w') : IsDO w' O p D := h.touch hT (fun _ _ => id)
theorem IsDO.mono {w : World} {O O' : Nat → Prop} {p : Nat} {D : dSt} (h : IsDO w O p D) (hn : ∀ k, O k → O' k) : IsDO w O' p D := by
  obtain ⟨hb, wv, hd, h1, h2, h3⟩ := h
  exact ⟨hb, wv, hd, hn _ h1, hn _ h2, fun k hk => hn k (h3 k hk)⟩
/-- A disk's numbers are within bounds. -/
structure DOk (D : dSt) (k : Nat) : Prop where
  waits : D.W.length ≤ k
  steps0 : 0 ≤ D.steps
  steps1 : D.steps ≤ k
  left0 : -1 ≤ D.left
  left1 : D.left ≤ 9223372036854775807
  size : 0 < D.size
theorem DOk.wrote {D : dSt} {k : Nat} (h : DOk D k) (i : Int) (bs : List UInt8) : DOk (D.wrote i bs) (k + 1) := by
  have h0 := h.left0
  have h1 := h.left1
  refine ⟨?_, ?_, ?_, ?_, ?_, h.size⟩
  · show (D.W ++ [(i, bs)]).length ≤ k + 1
    have := h.waits
    rw [List.length_append]; simp; omega
  · show 0 ≤ D.steps + 1
    have := h.steps0; omega
  · show D.steps + 1 ≤ _
    have := h.steps1; omega
  · show -1 ≤ less D.left
    unfold less; split <;> omega
  · show less D.left ≤ _
    unfold less; split <;> omega
theorem DOk.synced {D : dSt} {k : Nat} (h : DOk D k) : DOk D.synced (k + 1) := by
  have h0 := h.left0
  have h1 := h.left1
  refine ⟨Nat.zero_le _, ?_, ?_, ?_, ?_, h.size⟩
  · show 0 ≤ D.steps + 1
    have := h.steps0; omega
  · show D.steps + 1 ≤ _
    have := h.steps1; omega
  · show -1 ≤ less D.left
    unfold less; split <;> omega
  · show less D.left ≤ _
    unfold less; split <;> omega
theorem DOk.mono {D : dSt} {k j : Nat} (h : DOk D k) (hj : k ≤ j) : DOk D j := ⟨Nat.le_trans h.waits hj, h.steps0, by have := h.steps1; omega, h.left0, h.left1, h.size⟩
/-- r writes, from number i on, and a sync: the answer, and the disk behind it. -/
def goW (f : Nat → Int × List UInt8) : Nat → Nat → dSt → Int × dSt
  | 0, _, D => if D.left = 0 then (10, D) else (0, D.synced)
  | r + 1, i, D => if D.left = 0 then (10, D) else goW f r (i + 1) (D.wrote (f i).1 (f i).2)
theorem goW_ok {f : Nat → Int × List UInt8} : ∀ {r i : Nat} {D : dSt} {k : Nat}, DOk D k → DOk (goW f r i D).2 (k + r + 1)
  | 0, i, D, k, h => by
    unfold goW
    split
    · exact h.mono (by omega)
    · exact h.synced
  | r + 1, i, D, k, h => by
    unfold goW
    split
    · exact h.mono (by omega)
    · exact (goW_ok (r := r) (i := i + 1) (h.wrote _ _)).mono (by omega)
theorem own_type {w : World} {B : Nat} {e : TypeId} {size : Nat} {v : Value} {n : Nat} {xs : List Value} (h : w.ownsRow B e size v n xs) {k : Nat} (hk : v.ownBlock = some k) : ∃ cur, w.heap[k]? = some (.cells cur e (0, 0)) := by
  rcases h.2 with ⟨rfl, _⟩ | ⟨g, cap, cur, rfl, hb', hgg, rest⟩
  · cases hk
  · obtain rfl : g = k := by simpa [Value.ownBlock] using hk
    exact ⟨cur, hgg⟩
/-- What a call of a disk leaves. -/
def PDo (w : World) (O : Nat → Prop) (p : Nat) (z : Int) (D : dSt) (e : Ending) (w' : World) : Prop := e = .returned (.int .i64 z) ∧ Hid (∃ O', IsDO w' O' p D ∧ Touch O w w' ∧ ∀ k, O' k → O k ∨ (w.heap.size ≤ k ∧ k < w'.heap.size))
theorem rangeOf {w : World} {g o : Nat} {bs : List UInt8} (h : At w (some ⟨g, o, none⟩) bs) : w.rangeAt g o (S bs) := by
  intro j v hv
  rw [S_get] at hv
  obtain ⟨c, hc, rfl⟩ := Option.map_eq_some_iff.1 hv
  obtain ⟨b, o', e, h1⟩ := h j c hc
  obtain ⟨rfl, rfl⟩ : g = b ∧ o = o' := by simpa using e
  exact h1
/-- A sector of the disk, read. -/
def PSec (w : World) (bs : List UInt8) (e : Ending) (w' : World) : Prop := ∃ g cap, e = .returned (.tuple #[.slice (some ⟨g, 0, none⟩) 256 cap, .int .i64 0]) ∧ Hid (At w' (some ⟨g, 0, none⟩) bs ∧ bs.length = 256 ∧ 256 ≤ cap ∧ w.heap.size ≤ g ∧ Adds w w')
theorem dread_any {w : World} {O : Nat → Prop} {p : Nat} {D : dSt} {n : Nat} (h : IsDO w O p D) (hk : DOk D n) (hn : n ≤ 900) (hon : D.left ≠ 0) (i : Int) (hi : 0 ≤ i ∧ i < D.size) : Calls Tryd.prog 64 #[Ptr p, .int .i64 i] w (PSec w (hasOf D.H D.W i)) := by
  obtain ⟨hb, wv, hd, h1, h2, h3⟩ := h
  have := hk.waits
  refine (read_ok 0 p hb wv D i w hd (by omega) hi hon).mono ?_
  rintro e w' ⟨v, rfl, hr, hv, hA⟩
  obtain ⟨g, cap, rfl, hg, hc⟩ := Own.some hr (by omega)
  exact ⟨g, cap, rfl, At.own hr, hasOf_len i hd.good D.W hd.goodW, hc, hg, hA⟩
theorem dread_off {w : World} {O : Nat → Prop} {p : Nat} {D : dSt} {n : Nat} (h : IsDO w O p D) (hk : DOk D n) (hon : D.left = 0) (i : Int) (hi : 0 ≤ i ∧ i < D.size) : Calls Tryd.prog 64 #[Ptr p, .int .i64 i] w (Tells (.tuple #[.slice none 0 0, .int .i64 10]) w) := by
  obtain ⟨hb, wv, hd, h1, h2, h3⟩ := h
  exact read_off p D.size i w (cellOf hd.box 0) (by rw [cellOf hd.box 4, hon]; rfl) hk.size hi
theorem dsize_any {w : World} {O : Nat → Prop} {p : Nat} {D : dSt} {n : Nat} (h : IsDO w O p D) (hk : DOk D n) : Calls Tryd.prog 21 #[Ptr p] w (Tells (.int .i64 D.size) w) := by
  obtain ⟨hb, wv, hd, h1, h2, h3⟩ := h
  exact size_any p D.size w (cellOf hd.box 0) hk.size
end Go.Proofs.YtokbiekdompaoaaDoor
