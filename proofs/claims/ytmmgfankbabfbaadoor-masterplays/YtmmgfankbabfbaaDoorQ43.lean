/- Texts put together: WRO, VOpen. -/
import Derived.Test.YtmmgfankbabfbaaDoorQ42
import Derived.Test.YtmmgfankbabfbaaDoorQ20
import Derived.Test.YtmmgfankbabfbaaDoorQ23
import Derived.Test.YtmmgfankbabfbaaDoorQ40
import Derived.Test.YtmmgfankbabfbaaDoorQ25
/- The reference's disk with its owner; its calls, in all cases. -/
namespace Go.Proofs.YtmmgfankbabfbaaDoor
open Go.RowKit

/-- The reference's disk, all of whose blocks are of O. -/
def IsRO (w : World) (O : Nat → Prop) (p : Nat) (D : dSt) : Prop := ∃ hv wv, IsRef w 0 p hv wv D ∧ O p ∧ (∀ k, hv.ownBlock = some k → O k) ∧ ∀ k, wv.ownBlock = some k → O k
set_option maxRecDepth 100000 in
theorem IsRO.touch {w w' : World} {O T : Nat → Prop} {p : Nat} {D : dSt} (h : IsRO w O p D) (hT : Touch T w w') (hn : ∀ k, O k → ¬ T k) : IsRO w' O p D := by
  obtain ⟨hv, wv, hd, h1, h2, h3⟩ := h
  exact ⟨hv, wv, hd.kept hT (hn _ h1) (fun k hk => hn k (h2 k hk)) (fun k hk => hn k (h3 k hk)), h1, h2, h3⟩
theorem IsRO.adds {w w' : World} {O : Nat → Prop} {p : Nat} {D : dSt} (h : IsRO w O p D) (hT : Adds w w') : IsRO w' O p D := h.touch hT (fun _ _ => id)
set_option maxRecDepth 100000 in
theorem IsRO.mono {w : World} {O O' : Nat → Prop} {p : Nat} {D : dSt} (h : IsRO w O p D) (hn : ∀ k, O k → O' k) : IsRO w O' p D := by
  obtain ⟨hv, wv, hd, h1, h2, h3⟩ := h
  exact ⟨hv, wv, hd, hn _ h1, fun k hk => hn k (h2 k hk), fun k hk => hn k (h3 k hk)⟩
/-- What a call of the reference's disk leaves. -/
def PRo (w : World) (O : Nat → Prop) (p : Nat) (x : Int × dSt) (e : Ending) (w' : World) : Prop := e = .returned (.int .i64 x.1) ∧ Hid (∃ O', IsRO w' O' p x.2 ∧ Touch O w w' ∧ ∀ k, O' k → O k ∨ (w.heap.size ≤ k ∧ k < w'.heap.size))
set_option maxRecDepth 100000 in
theorem PRo.same {w w' : World} {O : Nat → Prop} {p : Nat} {D : dSt} (h : IsRO w O p D) (hw : w' = w) (z : Int) : PRo w O p (z, D) (.returned (.int .i64 z)) w' := by
  subst hw
  exact ⟨rfl, O, h, Touch.refl _ _, fun _ c => .inl c⟩
set_option maxRecDepth 100000 in
theorem ro_put {w : World} {O : Nat → Prop} {p : Nat} {D : dSt} {n : Nat} (h : IsRO w O p D) (hk : DOk D n) (hn : n ≤ 900) (i : Int) (hi : 0 ≤ i ∧ i < D.size) (bs : List UInt8) (hbs : bs.length = 256) :
    Calls Tryd.prog 49 #[Ptr p, .int .i64 i, Str bs] w (PRo w O p (if D.left = 0 then (10, D) else (0, D.wrote i bs))) := by
  have hD := h
  obtain ⟨hv, wv, hd, h1, h2, h3⟩ := h
  by_cases hon : D.left = 0
  · rw [if_pos hon]
    refine (rput_off 0 p hv wv D i bs w hd hi hbs hon).mono ?_
    rintro e w' ⟨rfl, hw⟩
    exact PRo.same hD hw 10
  · rw [if_neg hon]
    have := hk.waits
    have := hk.steps1
    refine (rput_ok 0 p hv wv D i bs w hd (Nat.zero_le _) (by omega) hi hbs hon hk.steps0 (by omega) hk.left0 hk.left1).mono ?_
    rintro e w' ⟨wv', rfl, hd', hT, hat⟩
    refine ⟨rfl, fun k => O k ∨ wv'.ownBlock = some k, ⟨hv, wv', hd', .inl h1, fun k hk => .inl (h2 k hk), fun k hk => .inr hk⟩, hT.mono (fun k _ c => by rcases c with rfl | c; exact h1; exact h3 k c), fun k hk' => ?_⟩
    rcases hk' with c | c
    · exact .inl c
    · rcases hat k c with c' | c'
      · exact .inl (h3 k c')
      · refine .inr ⟨c', ?_⟩
        obtain ⟨_, hc⟩ := own_type hd'.wait c
        exact (Array.getElem?_eq_some_iff.1 hc).1
set_option maxRecDepth 100000 in
theorem ro_sync {w : World} {O : Nat → Prop} {p : Nat} {D : dSt} {n : Nat} (h : IsRO w O p D) (hk : DOk D n) (hn : n ≤ 900) : Calls Tryd.prog 50 #[Ptr p] w (PRo w O p (if D.left = 0 then (10, D) else (0, D.synced))) := by
  have hD := h
  obtain ⟨hv, wv, hd, h1, h2, h3⟩ := h
  by_cases hon : D.left = 0
  · rw [if_pos hon]
    refine (rsync_off 0 p hv wv D w hd hon).mono ?_
    rintro e w' ⟨rfl, hw⟩
    exact PRo.same hD hw 10
  · rw [if_neg hon]
    have := hk.waits
    have := hk.steps1
    refine (rsync_ok 0 p hv wv D w hd (by omega) hon hk.steps0 (by omega) hk.left0 hk.left1).mono ?_
    rintro e w' ⟨rfl, hd', hT⟩
    exact ⟨rfl, O, ⟨hv, _, hd', h1, h2, fun k hk => by cases hk⟩, hT.mono (fun k _ c => by rcases c with rfl | c; exact h1; exact h2 k c), fun _ c => .inl c⟩
/-- What is cut, spoilt: answers and states. -/
def cutE (n : Int) : Int := if 0 ≤ n then 0 else 2
def cutD (D : dSt) (n : Int) : dSt := if 0 ≤ n then D.cut n else D
def spoilE (D : dSt) (i a : Int) : Int := if 0 ≤ i ∧ i < D.size ∧ 0 ≤ a ∧ a < 256 then 0 else 2
def spoilD (D : dSt) (i a : Int) (b : UInt8) : dSt := if 0 ≤ i ∧ i < D.size ∧ 0 ≤ a ∧ a < 256 then D.spoiled i a.toNat b else D
set_option maxRecDepth 100000 in
theorem ro_cut {w : World} {O : Nat → Prop} {p : Nat} {D : dSt} (h : IsRO w O p D) (n : Int) : Calls Tryd.prog 26 #[Ptr p, .int .i64 n] w (PRo w O p (cutE n, cutD D n)) := by
  have hD := h
  obtain ⟨hv, wv, hd, h1, h2, h3⟩ := h
  by_cases hn : 0 ≤ n
  · rw [cutE, cutD, if_pos hn, if_pos hn]
    refine (rcut_ok 0 p hv wv D n w hd hn).mono ?_
    rintro e w' ⟨rfl, hd', hT⟩
    exact ⟨rfl, O, ⟨hv, wv, hd', h1, h2, h3⟩, hT.mono (fun k _ c => by subst c; exact h1), fun _ c => .inl c⟩
  · rw [cutE, cutD, if_neg hn, if_neg hn]
    refine (rcut_bad p n w (by omega)).mono ?_
    rintro e w' ⟨rfl, hw⟩
    exact PRo.same hD hw 2
set_option maxRecDepth 100000 in
theorem ro_spoil {w : World} {O : Nat → Prop} {p : Nat} {D : dSt} {n : Nat} (h : IsRO w O p D) (hk : DOk D n) (hn : n ≤ 900) (i a : Int) (b : UInt8) : Calls Tryd.prog 29 #[Ptr p, .int .i64 i, .int .i64 a, B8 b] w (PRo w O p (spoilE D i a, spoilD D i a b)) := by
  have hD := h
  obtain ⟨hv, wv, hd, h1, h2, h3⟩ := h
  by_cases hi : 0 ≤ i ∧ i < D.size ∧ 0 ≤ a ∧ a < 256
  · rw [spoilE, spoilD, if_pos hi, if_pos hi]
    obtain ⟨m, rfl⟩ : ∃ m : Nat, i = (m : Int) := ⟨i.toNat, by omega⟩
    obtain ⟨c, rfl⟩ : ∃ c : Nat, a = (c : Int) := ⟨a.toNat, by omega⟩
    have := hk.waits
    refine (rspoil_ok 0 p hv wv D m c b w hd (by omega) hi.2.1 (by omega)).mono ?_
    rintro e w' ⟨rfl, hd', hT⟩
    exact ⟨rfl, O, ⟨hv, wv, hd', h1, h2, h3⟩, hT.mono (fun k _ c => by rcases c with c | c; exact h2 k c; exact h3 k c), fun _ c => .inl c⟩
  · rw [spoilE, spoilD, if_neg hi, if_neg hi]
    refine (rspoil_bad 0 p hv wv D i a (b.toNat : Int) w hd hi).mono ?_
    rintro e w' ⟨rfl, hw⟩
    exact PRo.same hD hw 2
/-- What the reference's Read tells. -/
def rdS (D : dSt) (i : Int) : List UInt8 := if D.left = 0 then [] else hasOf D.H D.W i
set_option maxRecDepth 100000 in
theorem ro_read {w : World} {O : Nat → Prop} {p : Nat} {D : dSt} {n : Nat} (h : IsRO w O p D) (hk : DOk D n) (hn : n ≤ 900) (i : Int) (hi : 0 ≤ i ∧ i < D.size) (s : List UInt8) (z : Int) (hs : s = rdS D i) (hz : z = if D.left = 0 then 10 else 0) : Calls Tryd.prog 32 #[Ptr p, .int .i64 i] w (Tells (.tuple #[Str s, .int .i64 z]) w) := by
  obtain ⟨hv, wv, hd, h1, h2, h3⟩ := h
  by_cases hon : D.left = 0
  · rw [hs, hz, rdS, if_pos hon, if_pos hon]
    exact rread_off 0 p hv wv D i w hd hi hon
  · rw [hs, hz, rdS, if_neg hon, if_neg hon]
    have := hk.waits
    exact rread_ok 0 p hv wv D i w hd (by omega) hi hon
end Go.Proofs.YtmmgfankbabfbaaDoor

/- The reference's master is opened. -/
namespace Go.Proofs.YtmmgfankbabfbaaDoor
open Go.RowKit
set_option maxRecDepth 100000 in
theorem build_rmas (p : Nat) (z : Int) (w : World) : (Instr.build 88 #[(0, Ptr p), (1, .int .i64 z)]).run Tryd.prog w = .ok (.agg #[Ptr p, .int .i64 z, .int .i64 0, .slice none 0 0, .int .i64 0, .slice none 0 0]) w := by kernel_rfl
/-- What the reference's Open tells. -/
def PRMas (w : World) (p : Nat) (s : U.MS) (e : Ending) (w' : World) : Prop := ∃ m, e = .returned (.tuple #[Ptr m, .int .i64 0]) ∧ Hid (IsRM w' (fun k => w.heap.size ≤ k ∧ k < w'.heap.size) m p s ∧ Adds w w')
set_option maxRecDepth 100000 in
theorem ropen10_bad {w : World} {O : Nat → Prop} {p : Nat} {D : dSt} (hD : IsRO w O p D) (at_ : Int) (hb : at_ < 0 ∨ D.size - 2 < at_) : Calls Tryd.prog 23 #[Ptr p, .int .i64 at_] w (Adding (.tuple #[.pointer none, .int .i64 2]) w) := by
  obtain ⟨hv, wv, hd, _⟩ := hD
  obtain ⟨g, hcap, hhv, _⟩ := hd.heldAt
  have hsz := hd.size
  have c0 := cellOf hd.box 0
  have hN : ((D.size.toNat : Nat) : Int) = D.size := by omega
  obtain ⟨n, hn⟩ : ∃ n, n = D.size.toNat := ⟨_, rfl⟩
  rw [hhv, ← hn] at c0
  rw [← hn] at hN
  have hbn : at_ < 0 ∨ (n : Int) - 2 < at_ := by omega
  have hn2 : n ≤ 4096 := by omega
  clear hd hhv hb hN hsz hn
  by_cases h1 : at_ < 0
  · have d1 : decide (at_ < 0) = true := by simpa using h1
    clear hbn h1
    go_enter Tryd.func23, Tryd.ntmps23
    go_wp2_with fail
    go_ret2
    exact ⟨rfl, Touch.refl _ _⟩
  · have d1 : decide (at_ < 0) = false := by simpa using h1
    have d2 : decide ((n : Int) - 2 < at_) = true := by simpa using hbn.resolve_left h1
    clear hbn h1
    go_enter Tryd.func23, Tryd.ntmps23
    go_wp2_with fail
    go_ret2
    exact ⟨rfl, Touch.refl _ _⟩
set_option maxRecDepth 100000 in
/-- One slot is stored. -/
theorem rmas_set {w w' : World} {O : Nat → Prop} {m : Nat} {pv : Value} {x y z : NPart} {s s' : U.MS} {sl : U.Sl} {i : Nat} (h : IsRMV w O m pv x y s) (hi : i < 2) (hs : s' = s.put i sl) (hz : z.ns = sl.fs) (hq : NQ w (fun k => O k ∧ k ≠ m) z)
    (hw : w' = (w.setCell ⟨m, 2 + 2 * i, none⟩ (.int .i64 (sl.ep : Int))).setCell ⟨m, 2 + 2 * i + 1, none⟩ (.slice z.a sl.fs.length z.cap)) : ∃ x' y', IsRMV w' O m pv x' y' s' ∧ Touch (fun k => k = m) w w' := by
  have hT : Touch (fun k => k = m) w w' := by rw [hw]; exact Touch.setCell (T := fun k => k = m) (Touch.setCell (T := fun k => k = m) (Touch.refl _ w) (p := ⟨m, 2 + 2 * i, none⟩) (fun _ => rfl) _) (p := ⟨m, 2 + 2 * i + 1, none⟩) (fun _ => rfl) _
  have hb : w'.heap[m]? = some (.cells ((#[pv, .int .i64 (s.at_ : Int), .int .i64 (s.a.ep : Int), .slice x.a s.a.fs.length x.cap, .int .i64 (s.b.ep : Int), .slice y.a s.b.fs.length y.cap].setIfInBounds (2 + 2 * i) (.int .i64 (sl.ep : Int))).setIfInBounds (2 + 2 * i + 1) (.slice z.a sl.fs.length z.cap)) 88 (0, 0)) := by
    rw [hw]
    exact heap_setCell_same _ m (2 + 2 * i + 1) _ 88 _ (heap_setCell_same w m (2 + 2 * i) _ 88 _ h.box)
  have hn : ∀ k, (O k ∧ k ≠ m) → ¬ k = m := fun k q => q.2
  match i, hi with
  | 0, _ => exact ⟨z, y, ⟨by rw [hb, hs]; rfl, by rw [hs]; exact hz, by rw [hs]; exact h.ys, hq.touch hT hn, h.qy.touch hT hn, h.om⟩, hT⟩
  | 1, _ => exact ⟨x, z, ⟨by rw [hb, hs]; rfl, by rw [hs]; exact h.xs, by rw [hs]; exact hz, h.qx.touch hT hn, hq.touch hT hn, h.om⟩, hT⟩
set_option maxRecDepth 100000 in
theorem str_256U (bs : List UInt8) (h : bs.length = 256) (w : World) : ∃ cap w1, (convert 9 91 (.string ⟨bs.toArray⟩)).run Tryd.prog w = .ok (.slice (some ⟨w.heap.size, 0, none⟩) 256 cap) w1 ∧ 256 ≤ cap ∧ At w1 (some ⟨w.heap.size, 0, none⟩) bs ∧ Adds w w1 ∧ w.heap.size < w1.heap.size := by
  have e : (⟨bs.toArray⟩ : ByteArray).size = 256 := by simp [ByteArray.size, h]
  have q := run_bytes_of_string (P := Tryd.prog) w 9 91 5 ⟨bs.toArray⟩ Tryd.underlying9 Tryd.underlying91 Tryd.underlying5
  rw [e] at q
  have hg : (w.drew.alloc (Obj.cells (bytesRow ⟨bs.toArray⟩ (grownCap w 256 0 5)) 5 ((bytesRow ⟨bs.toArray⟩ (grownCap w 256 0 5)).size, (bytesRow ⟨bs.toArray⟩ (grownCap w 256 0 5)).size + 1))).heap[w.heap.size]? = some _ := heap_alloc_new w.drew _
  refine ⟨_, _, q, grownCap_ge w 256 0 5, ?_, (Touch.refl _ w).drew.alloc _, (Array.getElem?_eq_some_iff.1 hg).1⟩
  intro j c hj
  refine ⟨_, _, rfl, ?_⟩
  have hlt : j < bs.length := (List.getElem?_eq_some_iff.1 hj).1
  rw [cell_of_row _ _ _ _ _ _ hg, Nat.zero_add, bytesRow_at _ _ j (by simpa using hlt)]
  rw [List.getElem?_eq_getElem hlt] at hj
  obtain rfl : bs[j] = c := by simpa using hj
  rfl
set_option maxRecDepth 100000 in
theorem M.fixed4 {c : List UInt8} (h : 4 ≤ c.length) : (M.fixedR 4 ⟨0, c⟩).1 = (M.fixedR 4 ⟨0, c.take 4⟩).1 := by
  rw [M.fixedR, M.fixedR, show M.clamp 4 = 4 from rfl, M.takeR_ok rfl (by show ¬ c.length < 4; omega), M.takeR_ok rfl (by show ¬ (c.take 4).length < 4; rw [List.length_take]; omega)]
  simp [List.take_take]
set_option maxRecDepth 100000 in
set_option maxHeartbeats 4000000 in
theorem ropen10_ok {w : World} {O : Nat → Prop} {p : Nat} {D : dSt} {n0 : Nat} (hD : IsRO w O p D) (hk : DOk D n0) (hn0 : n0 ≤ 900) (a : Nat) (h3 : (a : Int) + 2 ≤ D.size) (hon : D.left ≠ 0) :
    Calls Tryd.prog 23 #[Ptr p, .int .i64 (a : Int)] w (PRMas w p (msAt D a)) := by
  have hbm := fun z w => build_rmas p z w
  have HR := hid (fun w' (hA : Adds w w') (k : Nat) (hk2 : k < 2) (z : Int) (hz : z = ((a + k : Nat) : Int)) => show Calls Tryd.prog 32 #[Ptr p, .int .i64 z] w' (Tells (.tuple #[Str (secOf D a k), .int .i64 0]) w') by
    rw [hz]
    exact ro_read (hD.adds hA) hk hn0 _ (by omega) _ _ (by rw [rdS, if_neg hon]; rfl) (by rw [if_neg hon]))
  have HS := hid (fun w' (cap : Nat) (s : List UInt8) (g : Nat) (hl : s.length = 256) (hc : 256 ≤ cap) (hAt : At w' (some ⟨g, 0, none⟩) s) => rparse_any g cap s w' hl hc hAt)
  obtain ⟨hv, wv, hd, _⟩ := hD
  have HL := hid (show ∀ k, (secOf D a k).length = 256 from fun k => hasOf_len _ hd.good _ hd.goodW)
  obtain ⟨g, hcap, hhv, _⟩ := hd.heldAt
  have hsz := hd.size
  have c0 := cellOf hd.box 0
  have hN : ((D.size.toNat : Nat) : Int) = D.size := by omega
  obtain ⟨n, hn⟩ : ∃ n, n = D.size.toNat := ⟨_, rfl⟩
  rw [hhv, ← hn] at c0
  rw [← hn] at hN
  have hn2 : n ≤ 4096 := by omega
  have d1 : decide ((a : Int) < 0) = false := by simp
  have d2 : decide ((n : Int) - 2 < (a : Int)) = false := by simp; omega
  have ha : a ≤ 4096 := by omega
  clear hd hhv hN hsz hn hk hon h3
  go_enter Tryd.func23, Tryd.ntmps23
  go_wp2_with fail
  clear d1 d2 hn2 c0
  go_loopw [7] (fun i wr => ∃ k : Nat, k ≤ 2 ∧ i = .int .i64 (k : Int) ∧ Hid ((∃ x y, IsRMV wr (fun j => w.heap.size ≤ j) w.heap.size (Ptr p) x y (msN D a k)) ∧ Adds w wr)) (fun i _ => 2 - (intOf i).toNat)
  case atStart => exact ⟨0, Nat.zero_le _, rfl, ⟨⟨none, 0, []⟩, ⟨none, 0, []⟩, heap_alloc_new w _, rfl, rfl, NQ.nil _ _, NQ.nil _ _, Nat.le_refl _⟩, (Touch.refl _ w).alloc _⟩
  case round =>
    obtain ⟨k, hk, rfl, HI⟩ := hrel
    by_cases hlt : k < 2
    · obtain ⟨x, y, hM⟩ := HI.out.1
      have HM := hid hM
      clear hM
      obtain rfl | rfl : k = 0 ∨ k = 1 := by omega
      · go_upto_region 10 with (first | (go_at_call 32; refine (HR.out wr HI.out.2 0 (by decide) _ (by omega)).mono ?_; rintro e _ ⟨rfl, hw⟩; rw [hw]; clear hw))
        obtain ⟨sx, hsx, hsl⟩ : ∃ sx, sx = secOf D a 0 ∧ sx.length = 256 := ⟨_, rfl, HL.out 0⟩
        rw [← hsx]
        have HSX := hid hsx
        clear hsx
        obtain ⟨sc, w3, hcv, hsc, hAs, hA3, _⟩ := str_256U sx hsl wr.drew
        have hcv2 : (convert 9 91 (Str sx)).run Tryd.prog wr.drew = .ok (.slice (some ⟨wr.heap.size, 0, none⟩) 256 sc) w3 := hcv
        clear hcv
        have hS0 : wr.drew.heap[w.heap.size]? = some (.cells #[Ptr p, .int .i64 (a : Int), .int .i64 ((msN D a 0).a.ep : Int), .slice x.a (msN D a 0).a.fs.length x.cap, .int .i64 ((msN D a 0).b.ep : Int), .slice y.a (msN D a 0).b.fs.length y.cap] 88 (0, 0)) := HM.out.box
        have H3 := hid (And.intro hAs (HI.out.2.drew.trans hA3))
        have hS3 := hA3.at' hS0 id
        have M3 := hid (HM.out.touch ((Touch.refl _ wr).drew.trans hA3) (fun _ _ => id))
        have HP3 := hid (HS.out w3 sc sx wr.drew.heap.size hsl hsc hAs)
        have HZ3 := hid hA3.size
        clear hAs hA3
        refine E_begin (S := fun _ : World => True) (X := 9) (by kernel_rfl) ?_
        refine E_put (i := 0) 41 (v := Ptr w.heap.size) rfl rfl (by kernel_rfl) (by kernel_rfl) (by kernel_rfl) (by kernel_rfl) (fun _ _ _ h => h) (Or.inl ⟨by rfl, fun _ _ => by rfl⟩) trivial ?_
        simp only [Act.put, List.setIfInBounds_toArray, List.set_cons_zero, List.set_cons_succ]
        refine E_put (i := 1) 42 (v := .int .i64 0) rfl rfl (by kernel_rfl) (by kernel_rfl) (by kernel_rfl) (by kernel_rfl) (fun _ _ _ h => h) (Or.inl ⟨by rfl, fun _ _ => by rfl⟩) trivial ?_
        simp only [Act.put, List.setIfInBounds_toArray, List.set_cons_zero, List.set_cons_succ]
        refine E_put (i := 2) 43 (v := Str sx) rfl rfl (by kernel_rfl) (by kernel_rfl) (by kernel_rfl) (by kernel_rfl) (fun _ _ _ h => h) (Or.inl ⟨by rfl, fun _ _ => by rfl⟩) trivial ?_
        simp only [Act.put, List.setIfInBounds_toArray, List.set_cons_zero, List.set_cons_succ]
        refine E_put (i := 5) 46 (v := Ptr w.heap.size) rfl rfl (by kernel_rfl) (by kernel_rfl) (by kernel_rfl) (by kernel_rfl) (fun _ _ _ h => h) (Or.inl ⟨by rfl, fun _ _ => by go_simp⟩) trivial ?_
        simp only [Act.put, List.setIfInBounds_toArray, List.set_cons_zero, List.set_cons_succ]
        refine E_put (i := 6) 47 (v := .pointer (some ⟨w.heap.size, 2, none⟩)) rfl rfl (by kernel_rfl) (by kernel_rfl) (by kernel_rfl) (by kernel_rfl) (fun _ _ _ h => h) (Or.inl ⟨by rfl, fun _ _ => by go_simp⟩) trivial ?_
        simp only [Act.put, List.setIfInBounds_toArray, List.set_cons_zero, List.set_cons_succ]
        refine E_do (i := 3) (some 44) (by kernel_rfl) rfl rfl rfl (fun K hK => ?_)
        go_simp
        refine hK (.slice (some ⟨wr.heap.size, 0, none⟩) 256 sc) w3 (fun _ => trivial) ?_
        clear hK K hcv2 hS0
        simp only [Act.put, List.setIfInBounds_toArray, List.set_cons_zero, List.set_cons_succ]
        refine E_call (i := 4) 45 46 #[.slice (some ⟨wr.heap.size, 0, none⟩) 256 sc] (by kernel_rfl) rfl rfl (by rfl) (by go_simp) HP3.out ?_
        rintro e w4 ⟨a4, cap4, rfl, H4⟩
        have hS4 := H4.out.2.at' hS3 id
        refine ⟨_, rfl, fun _ => trivial, ?_⟩
        simp only [Act.put, List.setIfInBounds_toArray, List.set_cons_zero, List.set_cons_succ]
        have M4 := hid (M3.out.touch H4.out.2 (fun _ _ => id))
        have c2 := cellOf hS4 2
        have c3 := cellOf hS4 3
        have f2 := frozen_of_row w4 _ 2 _ 88 hS4
        have f3 := frozen_of_row w4 _ 3 _ 88 hS4
        clear hS3
        refine E_do (i := 7) (some 48) (by kernel_rfl) rfl rfl rfl (fun K hK => ?_)
        go_simp
        refine hK (.pointer (some ⟨w.heap.size, 2, none⟩)) w4 (fun _ => trivial) ?_
        clear hK K
        simp only [Act.put, List.setIfInBounds_toArray, List.set_cons_zero, List.set_cons_succ]
        refine E_do (i := 8) none (by kernel_rfl) rfl rfl rfl (fun K hK => ?_)
        go_simp
        refine hK undef _ (fun _ => trivial) ?_
        clear hK K
        simp only [Act.put]
        refine E_done (by kernel_rfl) ?_ _
        clear c2 c3 f2 f3 hS4
        go_wp2_with fail
        go_roundw
        case rel =>
          have hs1 := lt_of_heap HM.out.box
          have hs3 := HZ3.out
          have e3 : U.slot sx = U.slot (secOf D a 0) := by rw [HSX.out]
          obtain ⟨x', y', h1, h2⟩ := rmas_set (i := 0) (z := ⟨a4, cap4, (U.slot sx).fs⟩) (sl := U.slot sx) M4.out (by decide) (show msN D a 1 = _ by rw [e3]; rfl) rfl (H4.out.1.mono (fun j _ q => by have q' : w3.heap.size ≤ j := q; simp at hs3; exact ⟨by omega, by omega⟩)) rfl
          exact ⟨1, by omega, by go_num, ⟨x', y', h1⟩, (H3.out.2.trans H4.out.2).then h2 (fun j hj e => by omega)⟩
        case measure => simp [intOf]
      · go_upto_region 10 with (first | (go_at_call 32; refine (HR.out wr HI.out.2 1 (by decide) _ (by omega)).mono ?_; rintro e _ ⟨rfl, hw⟩; rw [hw]; clear hw))
        obtain ⟨sx, hsx, hsl⟩ : ∃ sx, sx = secOf D a 1 ∧ sx.length = 256 := ⟨_, rfl, HL.out 1⟩
        rw [← hsx]
        have HSX := hid hsx
        clear hsx
        obtain ⟨sc, w3, hcv, hsc, hAs, hA3, _⟩ := str_256U sx hsl wr.drew
        have hcv2 : (convert 9 91 (Str sx)).run Tryd.prog wr.drew = .ok (.slice (some ⟨wr.heap.size, 0, none⟩) 256 sc) w3 := hcv
        clear hcv
        have hS0 : wr.drew.heap[w.heap.size]? = some (.cells #[Ptr p, .int .i64 (a : Int), .int .i64 ((msN D a 1).a.ep : Int), .slice x.a (msN D a 1).a.fs.length x.cap, .int .i64 ((msN D a 1).b.ep : Int), .slice y.a (msN D a 1).b.fs.length y.cap] 88 (0, 0)) := HM.out.box
        have H3 := hid (And.intro hAs (HI.out.2.drew.trans hA3))
        have hS3 := hA3.at' hS0 id
        have M3 := hid (HM.out.touch ((Touch.refl _ wr).drew.trans hA3) (fun _ _ => id))
        have HP3 := hid (HS.out w3 sc sx wr.drew.heap.size hsl hsc hAs)
        have HZ3 := hid hA3.size
        clear hAs hA3
        refine E_begin (S := fun _ : World => True) (X := 9) (by kernel_rfl) ?_
        refine E_put (i := 0) 41 (v := Ptr w.heap.size) rfl rfl (by kernel_rfl) (by kernel_rfl) (by kernel_rfl) (by kernel_rfl) (fun _ _ _ h => h) (Or.inl ⟨by rfl, fun _ _ => by rfl⟩) trivial ?_
        simp only [Act.put, List.setIfInBounds_toArray, List.set_cons_zero, List.set_cons_succ]
        refine E_put (i := 1) 42 (v := .int .i64 1) rfl rfl (by kernel_rfl) (by kernel_rfl) (by kernel_rfl) (by kernel_rfl) (fun _ _ _ h => h) (Or.inl ⟨by rfl, fun _ _ => by rfl⟩) trivial ?_
        simp only [Act.put, List.setIfInBounds_toArray, List.set_cons_zero, List.set_cons_succ]
        refine E_put (i := 2) 43 (v := Str sx) rfl rfl (by kernel_rfl) (by kernel_rfl) (by kernel_rfl) (by kernel_rfl) (fun _ _ _ h => h) (Or.inl ⟨by rfl, fun _ _ => by rfl⟩) trivial ?_
        simp only [Act.put, List.setIfInBounds_toArray, List.set_cons_zero, List.set_cons_succ]
        refine E_put (i := 5) 46 (v := Ptr w.heap.size) rfl rfl (by kernel_rfl) (by kernel_rfl) (by kernel_rfl) (by kernel_rfl) (fun _ _ _ h => h) (Or.inl ⟨by rfl, fun _ _ => by go_simp⟩) trivial ?_
        simp only [Act.put, List.setIfInBounds_toArray, List.set_cons_zero, List.set_cons_succ]
        refine E_put (i := 6) 47 (v := .pointer (some ⟨w.heap.size, 2, none⟩)) rfl rfl (by kernel_rfl) (by kernel_rfl) (by kernel_rfl) (by kernel_rfl) (fun _ _ _ h => h) (Or.inl ⟨by rfl, fun _ _ => by go_simp⟩) trivial ?_
        simp only [Act.put, List.setIfInBounds_toArray, List.set_cons_zero, List.set_cons_succ]
        refine E_do (i := 3) (some 44) (by kernel_rfl) rfl rfl rfl (fun K hK => ?_)
        go_simp
        refine hK (.slice (some ⟨wr.heap.size, 0, none⟩) 256 sc) w3 (fun _ => trivial) ?_
        clear hK K hcv2 hS0
        simp only [Act.put, List.setIfInBounds_toArray, List.set_cons_zero, List.set_cons_succ]
        refine E_call (i := 4) 45 46 #[.slice (some ⟨wr.heap.size, 0, none⟩) 256 sc] (by kernel_rfl) rfl rfl (by rfl) (by go_simp) HP3.out ?_
        rintro e w4 ⟨a4, cap4, rfl, H4⟩
        have hS4 := H4.out.2.at' hS3 id
        refine ⟨_, rfl, fun _ => trivial, ?_⟩
        simp only [Act.put, List.setIfInBounds_toArray, List.set_cons_zero, List.set_cons_succ]
        have M4 := hid (M3.out.touch H4.out.2 (fun _ _ => id))
        have c2 := cellOf hS4 4
        have c3 := cellOf hS4 5
        have f2 := frozen_of_row w4 _ 4 _ 88 hS4
        have f3 := frozen_of_row w4 _ 5 _ 88 hS4
        clear hS3
        refine E_do (i := 7) (some 48) (by kernel_rfl) rfl rfl rfl (fun K hK => ?_)
        go_simp
        refine hK (.pointer (some ⟨w.heap.size, 4, none⟩)) w4 (fun _ => trivial) ?_
        clear hK K
        simp only [Act.put, List.setIfInBounds_toArray, List.set_cons_zero, List.set_cons_succ]
        refine E_do (i := 8) none (by kernel_rfl) rfl rfl rfl (fun K hK => ?_)
        go_simp
        refine hK undef _ (fun _ => trivial) ?_
        clear hK K
        simp only [Act.put]
        refine E_done (by kernel_rfl) ?_ _
        clear c2 c3 f2 f3 hS4
        go_wp2_with fail
        go_roundw
        case rel =>
          have hs1 := lt_of_heap HM.out.box
          have hs3 := HZ3.out
          have e3 : U.slot sx = U.slot (secOf D a 1) := by rw [HSX.out]
          obtain ⟨x', y', h1, h2⟩ := rmas_set (i := 1) (z := ⟨a4, cap4, (U.slot sx).fs⟩) (sl := U.slot sx) M4.out (by decide) (show msN D a 2 = _ by rw [e3]; rfl) rfl (H4.out.1.mono (fun j _ q => by have q' : w3.heap.size ≤ j := q; simp at hs3; exact ⟨by omega, by omega⟩)) rfl
          exact ⟨2, by omega, by go_num, ⟨x', y', h1⟩, (H3.out.2.trans H4.out.2).then h2 (fun j hj e => by omega)⟩
        case measure => simp [intOf]
    · obtain rfl : k = 2 := by omega
      go_wp2_with fail
      go_ret2
      obtain ⟨x, y, hM⟩ := HI.out.1
      refine ⟨w.heap.size, rfl, ⟨x, y, ?_⟩, HI.out.2⟩
      exact ⟨hM.box, hM.xs, hM.ys, hM.qx.mono (fun j hj q => ⟨⟨q.1, hj⟩, q.2⟩), hM.qy.mono (fun j hj q => ⟨⟨q.1, hj⟩, q.2⟩), Nat.le_refl _, lt_of_heap hM.box⟩
end Go.Proofs.YtmmgfankbabfbaaDoor
