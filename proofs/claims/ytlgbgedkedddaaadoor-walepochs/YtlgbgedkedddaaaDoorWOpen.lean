/- Open; what a Commit leaves, in all cases; Begin, in all cases. -/
import Derived.Test.YtlgbgedkedddaaaDoorWFind
namespace Go.Proofs.YtlgbgedkedddaaaDoor
open Go.RowKit

set_option maxRecDepth 100000 in
theorem build_log5 (p : Nat) (fr ct e : Int) (w : World) : (Instr.build 35 #[(0, Ptr p), (1, .int .i64 fr), (2, .int .i64 ct), (3, .int .i64 e), (4, .bool true)]).run Tryd.prog w = .ok (.agg #[Ptr p, .int .i64 fr, .int .i64 ct, .int .i64 e, .bool true, .slice none 0 0, .int .i64 0, .int .i64 0, .slice none 0 0]) w := by kernel_rfl
set_option maxRecDepth 100000 in
theorem open_un (x : Value) (fr ct ep : Int) (w : World) (hu : Unmade w x) : Calls Tryd.prog 7 #[x, .int .i64 fr, .int .i64 ct, .int .i64 ep] w (Tells (.tuple #[.pointer none, .int .i64 1]) w) := by
  have H := hid (size_un x w hu)
  clear hu
  go_enter Tryd.func7, Tryd.ntmps7
  go_wp2_with (first | (go_at_call 25; refine H.out.mono ?_; rintro e _ ⟨rfl, hw⟩; rw [hw]; clear hw))
  go_ret2
  exact ⟨rfl, rfl⟩
/-- What Open tells. -/
def PLog (w : World) (p : Nat) (L : LS) (e : Ending) (w' : World) : Prop := ∃ l, e = .returned (.tuple #[Ptr l, .int .i64 0]) ∧ Hid (IsLog w' (fun k => w.heap.size ≤ k ∧ k < w'.heap.size) l p L ∧ Adds w w')
set_option maxRecDepth 100000 in
set_option maxHeartbeats 2000000 in
theorem open_ok {w : World} {O : Nat → Prop} {p : Nat} {D : dSt} {n0 : Nat} (hD : IsDO w O p D) (hk : DOk D n0) (hn0 : n0 ≤ 900) (hT : Tab w) (hO : ∀ k, O k → k < w.heap.size) (fr ct ep : Nat) (h1 : 1 ≤ ct) (h2 : ct ≤ 4000) (h3 : fr + ct ≤ D.size) (h4 : 1 ≤ ep) (h5 : ep ≤ 1000000000) (h6 : D.size ≤ 4096) (hon : D.left ≠ 0) :
    Calls Tryd.prog 7 #[Ptr p, .int .i64 (fr : Int), .int .i64 (ct : Int), .int .i64 (ep : Int)] w (PLog w p ⟨fr, ct, ep, true, (W.find ep (secOf D fr) ct 0 [] [] 0).1, []⟩) := by
  have HF := hid (find_any (w := w.alloc (.cells #[Ptr p, .int .i64 (fr : Int), .int .i64 (ct : Int), .int .i64 (ep : Int), .bool true, .slice none 0 0, .int .i64 0, .int .i64 0, .slice none 0 0] 35)) (l := w.heap.size) (L := ⟨fr, ct, ep, true, [], []⟩) (heap_alloc_new w _) h5 h2 (by show fr ≤ 4096; omega) (hD.adds ((Touch.refl _ w).alloc _)) hk hn0 (fun c => Nat.lt_irrefl _ (hO _ c)) (hT.adds ((Touch.refl _ w).alloc _)) h3 hon)
  obtain ⟨hb, wv, hd, _, _, _⟩ := hD
  obtain ⟨sz, hsz⟩ : ∃ sz, sz = D.size := ⟨_, rfl⟩
  have HSz := hid (fun w' (h' : w' = w) => show Calls Tryd.prog 25 #[Ptr p] w' (fun e w'' => e = .returned (.int .i64 sz) ∧ w'' = w) by subst h'; rw [hsz]; exact size_any p D.size w' (cellOf hd.box 0) hk.size)
  obtain ⟨frz, hfrz⟩ : ∃ frz : Int, frz = fr := ⟨_, rfl⟩
  obtain ⟨ctz, hctz⟩ : ∃ ctz : Int, ctz = ct := ⟨_, rfl⟩
  obtain ⟨epz, hepz⟩ : ∃ epz : Int, epz = ep := ⟨_, rfl⟩
  have hs0 := hk.size
  rw [← hsz] at h3 h6 hs0
  have d0 : (sz == 0) = false := beq_eq_false_iff_ne.2 (by omega)
  have d1 : decide (frz < 0) = false := by simp; omega
  have d2 : decide (ctz < 1) = false := by simp; omega
  have d3 : decide (10000 < ctz) = false := by simp; omega
  have d4 : decide (sz - ctz < frz) = false := by simp; omega
  have d5 : decide (epz < 1) = false := by simp; omega
  have d6 : decide (1000000000 < epz) = false := by simp; omega
  have hc1 : 0 ≤ ctz ∧ ctz ≤ 4000 := by omega
  have hbl := fun w => build_log5 p frz ctz epz w
  rw [← hfrz, ← hctz, ← hepz] at HF
  rw [← hfrz, ← hctz, ← hepz]
  clear hfrz hctz hepz hd hsz h1 h2 h3 h4 h5 hon hT hO hk
  go_enter Tryd.func7, Tryd.ntmps7
  go_wp2_with (first
    | (go_at_call 25; refine (HSz.out _ rfl).mono ?_; rintro e _ ⟨rfl, hw⟩; rw [hw]; clear hw)
    | (go_at_call 26; refine HF.out.mono ?_; rintro e w2 ⟨rfl, hL2, hT2⟩; have H2 := hid (And.intro hL2 hT2); clear hL2 hT2))
  go_ret2
  refine ⟨w.heap.size, rfl, H2.out.1.mono (fun k q => ?_), ?_⟩
  · have := H2.out.2.size
    rcases q with q | q
    · simp at this; omega
    · simp at this q; omega
  · exact ((Touch.refl _ w).alloc _).then H2.out.2 (fun k hk c => by omega)

/-! ### Commit -/
def comR (L : LS) (D : dSt) : Int × dSt := goW (fW L.fr L.ep (W.usedOf L.G) (W.gbytes L.R)) (W.secs (W.gbytes L.R).length) 0 D
def comE (L : LS) (D : dSt) : Int := if L.cl = true then 42 else if L.R = [] then 0 else (comR L D).1
def comD (L : LS) (D : dSt) : dSt := if L.cl = true then D else if L.R = [] then D else (comR L D).2
def comL (L : LS) (D : dSt) : LS := if L.cl = true then L else if L.R = [] then L else if (comR L D).1 = 0 then { L with G := L.G ++ [W.gbytes L.R], R := [] } else { L with cl := true, R := [] }
set_option maxRecDepth 100000 in
theorem commit_any {w : World} {OL OD : Nat → Prop} {l p : Nat} {L : LS} {D : dSt} {n0 : Nat} (h : IsLog w OL l p L) (hD : IsDO w OD p D) (hap : ∀ k, OL k → ¬ OD k) (hlt : ∀ k, OL k ∨ OD k → k < w.heap.size) (hk : L.Ok) (hdk : DOk D n0)
    (hn0 : n0 + L.ct ≤ 800) (hsz : L.fr + L.ct ≤ D.size) (hT : Tab w) (h0 : ¬ OD 0) : Calls Tryd.prog 10 #[Ptr l] w (PCom w OL OD l p (comL L D) (comD L D) (comE L D)) := by
  have hL := h
  obtain ⟨gv, tv, hs, h⟩ := h
  have c0 : w.cell? ⟨l, 0, none⟩ = some (Ptr p) := cellOf h.box 0
  have c4 : w.cell? ⟨l, 4, none⟩ = some (.bool L.cl) := cellOf h.box 4
  have same : ∀ z, PCom w OL OD l p L D z (.returned (.int .i64 z)) w := fun z => ⟨rfl, OL, OD, hL, hD, hap, Touch.refl _ _, fun k q => .inl q⟩
  by_cases hc : L.cl = true
  · rw [comE, comD, comL, if_pos hc, if_pos hc, if_pos hc]
    rw [hc] at c4
    refine (commit_closed l p w c0 c4).mono ?_
    rintro e w' ⟨rfl, hw⟩
    rw [hw]
    exact same 42
  · have hc' : L.cl = false := by simpa using hc
    rw [comE, comD, comL, if_neg hc, if_neg hc, if_neg hc]
    rw [hc'] at c4
    by_cases hR : L.R = []
    · rw [if_pos hR, if_pos hR, if_pos hR]
      refine (commit_none l p w c0 c4 (by rw [cellOf h.box 7, hR]; rfl)).mono ?_
      rintro e w' ⟨rfl, hw⟩
      rw [hw]
      exact same 0
    · rw [if_neg hR, if_neg hR, if_neg hR]
      have hw := hk.wt hR
      have hn1 : n0 + W.secs (W.gbytes L.R).length ≤ 800 := by omega
      cases hr : comR L D with
      | mk z D' =>
        by_cases hz : z = 0
        · subst hz
          rw [if_pos rfl]
          exact commit_up h hD hap hlt hk hdk hn1 hc' hR hsz hT h0 D' hr
        · rw [if_neg hz]
          exact commit_down h hD hap hlt hk hdk hn1 hc' hR hsz hT h0 D' z hz hr
set_option maxRecDepth 100000 in
theorem LS.Ok.com {L : LS} (h : L.Ok) (D : dSt) : (comL L D).Ok := by
  unfold comL
  split
  · exact h
  · split
    · exact h
    · rename_i hR
      have hw := h.wt hR
      have hu := h.us
      split
      · refine ⟨h.fr, h.ct, h.ep, ?_, fun c => absurd rfl c, fun g hg => ?_⟩
        · show W.usedOf (L.G ++ [W.gbytes L.R]) ≤ L.ct
          rw [W.usedOf_app]; simp only [W.usedOf]; omega
        · rcases List.mem_append.1 hg with hg | hg
          · exact h.good g hg
          · obtain rfl := List.mem_singleton.1 hg
            have hl := secs_len hw
            have hc := h.ct
            refine ⟨by omega, ?_⟩
            rw [W.recs_put L.R (by omega)]
            exact hR
      · exact ⟨h.fr, h.ct, h.ep, hu, fun c => absurd rfl c, h.good⟩
/-! ### Begin -/
def begE (L : LS) (e : Int) : Int := if e ≤ L.ep ∨ 1000000000 < e then 2 else 0
def begL (L : LS) (e : Int) : LS := if e ≤ L.ep ∨ 1000000000 < e then L else { L with ep := e.toNat, cl := false, G := [], R := [] }
set_option maxRecDepth 100000 in
theorem begin_any {w : World} {O : Nat → Prop} {l p : Nat} {L : LS} (h : IsLog w O l p L) (e : Int) : Calls Tryd.prog 8 #[Ptr l, .int .i64 e] w (PApp w O l p (begL L e) (begE L e)) := by
  have hL := h
  obtain ⟨gv, tv, hs, h⟩ := h
  have c0 : w.cell? ⟨l, 0, none⟩ = some (Ptr p) := cellOf h.box 0
  have c3 : w.cell? ⟨l, 3, none⟩ = some (.int .i64 (L.ep : Int)) := cellOf h.box 3
  by_cases hb : e ≤ L.ep ∨ 1000000000 < e
  · rw [begL, begE, if_pos hb, if_pos hb]
    refine (begin_bad l p (L.ep : Int) e w c0 c3 hb).mono ?_
    rintro r w' ⟨rfl, hw⟩
    rw [hw]
    exact hL.same (Touch.refl _ _)
  · rw [begL, begE, if_neg hb, if_neg hb]
    refine (begin_ok l p (L.fr : Int) (L.ct : Int) _ _ _ _ _ (L.ep : Int) e w h.box (by omega) (by omega)).mono ?_
    rintro r w' ⟨rfl, hb', hT⟩
    refine ⟨rfl, O, ⟨.slice none 0 0, .slice none 0 0, [], ⟨?_, World.ownsRow_nil _ _ _ _, fun _ hx => (by cases hx), rfl, World.ownsRow_nil _ _ _ _, h.ol, fun _ hk => (by cases hk), fun _ hk => (by cases hk)⟩⟩, hT.mono (fun k _ c => by subst c; exact h.ol), fun _ c => .inl c⟩
    rw [hb']
    simp only [LBox, W.usedOf]
    rw [show ((e.toNat : Nat) : Int) = e by omega]
    rfl
set_option maxRecDepth 100000 in
theorem LS.Ok.beg {L : LS} (h : L.Ok) (e : Int) : (begL L e).Ok := by
  unfold begL
  split
  · exact h
  · refine ⟨h.fr, h.ct, ?_, Nat.zero_le _, fun c => absurd rfl c, fun g hg => (by cases hg)⟩
    show e.toNat ≤ 1000000000
    omega
end Go.Proofs.YtlgbgedkedddaaaDoor
