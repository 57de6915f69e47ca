/- Texts put together: GAlloc, GFree. -/
import Derived.Test.YtjlennpoaefllaaGreatDoorQ26
import Derived.Test.YtjlennpoaefllaaGreatDoorQ33
/- Alloc. -/
namespace Go.Proofs.YtjlennpoaefllaaGreatDoor
open Go.RowKit

/-- What Alloc leaves. -/
def PAl (w0 : World) (X : List (Nat × Obj)) (p dp : Nat) (D : dSt) (n kk : Nat) (R : Int × Nat × F.Po) (e : Ending) (w' : World) : Prop := e = .returned (.tuple #[.int .i64 R.1, .int .i64 (R.2.1 : Int)]) ∧ Hid (LpX w0 w' X p dp R.2.2 D n kk)
set_option maxRecDepth 100000 in
theorem alloc_bad {D : dSt} {r k : Nat} {s : F.Po} (h : G.mapE s D k ≠ 0) : G.allocG D (r + 1) k s = (0, G.mapE s D k, F.getS s D k) := by unfold G.allocG; rw [if_neg h]
set_option maxRecDepth 100000 in
theorem alloc_next {D : dSt} {r k : Nat} {s : F.Po} (h : G.mapE s D k = 0) (hl : G.least (G.cnt s) k (G.mapB s D k) = none) : G.allocG D (r + 1) k s = G.allocG D r (k + 1) (F.getS s D k) := by conv => lhs; unfold G.allocG; rw [if_pos h, hl]
set_option maxRecDepth 100000 in
theorem alloc_ok {D : dSt} {r k i : Nat} {s : F.Po} (h : G.mapE s D k = 0) (hl : G.least (G.cnt s) k (G.mapB s D k) = some i) (hp : F.putE (F.getS s D k) k (G.pg k (G.flip (G.mapB s D k) i)) = 0) : G.allocG D (r + 1) k s = (((1920 * k + i : Nat) : Int), 0, F.putS (F.getS s D k) k (G.pg k (G.flip (G.mapB s D k) i))) := by unfold G.allocG; rw [if_pos h, hl]; exact if_pos hp
set_option maxRecDepth 100000 in
theorem alloc_no {D : dSt} {r k i : Nat} {s : F.Po} (h : G.mapE s D k = 0) (hl : G.least (G.cnt s) k (G.mapB s D k) = some i) (hp : ¬ F.putE (F.getS s D k) k (G.pg k (G.flip (G.mapB s D k) i)) = 0) : G.allocG D (r + 1) k s = (0, F.putE (F.getS s D k) k (G.pg k (G.flip (G.mapB s D k) i)), F.putS (F.getS s D k) k (G.pg k (G.flip (G.mapB s D k) i))) := by unfold G.allocG; rw [if_pos h, hl]; exact if_neg hp
set_option maxRecDepth 100000 in
theorem least_lt {c k i : Nat} {bs : List UInt8} (h : G.least c k bs = some i) : i < 8 * bs.length := by
  unfold G.least at h
  exact List.mem_range.1 (List.mem_of_find?_eq_some h)
set_option maxRecDepth 100000 in
set_option maxHeartbeats 4000000 in
theorem salloc_any {w0 w : World} {X : List (Nat × Obj)} {p dp : Nat} {s : F.Po} {D : dSt} {n kk sp : Nat} (h : LpX w0 w X p dp s D n kk) (hX : (sp, SBox p) ∈ X) (hn : n + 10 ≤ 1000000) (hk9 : kk ≤ 900) :
    Calls Tryz.prog 31 #[Ptr sp] w (PAl w0 X p dp D (n + 10) kk (G.allocG D (G.maps (G.cnt s)) 0 s)) := by
  have hc := h.pok.cnt
  have hm3 := G.maps_le hc.2.1
  obtain ⟨M, hM⟩ : ∃ M, M = G.maps (G.cnt s) := ⟨_, rfl⟩
  have H1 := hid (smade_any (h.spc hX) hc.1)
  have H2 := hid (smaps_any (h.spc hX) hc.2.1)
  obtain ⟨R, hR⟩ : ∃ R, R = G.allocG D (G.maps (G.cnt s)) 0 s := ⟨_, rfl⟩
  rw [← hR]
  rw [← hM] at H2 hm3 hR
  have HX := hid hX
  have H0 := hid (And.intro h (And.intro hR (And.intro hn (And.intro hk9 hM))))
  clear h hX hc hM hR hn hk9
  go_enter Tryz.func31, Tryz.ntmps31
  go_wp2_with (first
    | (go_at_call 35; refine H1.out.mono ?_; rintro e w1 ⟨rfl, hw⟩; rw [hw]; clear hw)
    | (go_at_call 36; refine H2.out.mono ?_; rintro e w1 ⟨rfl, hw⟩; rw [hw]; clear hw))
  go_loopw [15] (fun i wr => ∃ (k : Nat) (s' : F.Po), i = .int .i64 (k : Int) ∧ k ≤ M ∧ Hid (LpX w0 wr X p dp s' D (n + k) kk ∧ G.allocG D (M - k) k s' = R ∧ G.cnt s' = G.cnt s)) (fun i _ => M - (intOf i).toNat)
  case atStart =>
    exact ⟨0, s, rfl, Nat.zero_le _, H0.out.1, H0.out.2.1.symm, rfl⟩
  case round =>
    obtain ⟨k, s', rfl, hk, HI⟩ := hrel
    by_cases hlt : k < M
    · have hlt' : (k : Int) < (M : Int) := by omega
      have hr : M - k = (M - (k + 1)) + 1 := by omega
      have hkm : k < G.maps (G.cnt s') := by rw [HI.out.2.2, ← H0.out.2.2.2.2]; exact hlt
      have HR := HI.out.2.1
      rw [hr] at HR
      by_cases hz : G.mapE s' D k = 0
      · have HG := hid (sget_ok HI.out.1 HX.out (by have := H0.out.2.2.1; omega) H0.out.2.2.2.1 hkm hz)
        have hmay := (G.mapB_may hz).2.2.1
        have hxl := G.may_len hmay
        have hx1 := G.cells_pos hkm
        have hx2 := G.cells_le (G.cnt s') k
        have hct := G.get_ct s' D (k : Int)
        have HLe := hid (fun (w1 : World) (g cap : Nat) (h1 : Spc w1 sp p (G.cnt s')) (h2 : At w1 (some ⟨g, 0, none⟩) (G.mapB s' D k)) => sleast_any h1 (k := k) (by omega) g 0 (G.mapB s' D k) (G.mapB s' D k).length cap rfl h2 (by omega) (by omega))
        cases hl : G.least (G.cnt s') k (G.mapB s' D k) with
        | none =>
          rw [alloc_next hz hl] at HR
          rw [hl] at HLe
          have HR := hid HR
          obtain ⟨xl, hxl'⟩ : ∃ xl, xl = (G.mapB s' D k).length := ⟨_, rfl⟩
          have HL := hid hxl'
          rw [← hxl'] at HLe
          generalize G.mapB s' D k = x at *
          clear hz hr hkm hl hmay hxl hx1 hx2 hxl'
          go_wp2_with (first
            | (go_at_call 70; refine HG.out.mono ?_; rintro e w1 ⟨g, cap, cur, rfl, H3⟩; rw [← HL.out])
            | (go_at_call 72; refine (HLe.out w1 g cap (by have q := H3.out.2.2.1.spc (List.mem_cons_of_mem _ HX.out); rw [hct] at q; exact q) (H3.out.2.2.1.bytes H3.out.1)).mono ?_; rintro e w2 ⟨rfl, h4⟩; have H4 := hid h4; clear h4; unfold leVal))
          go_roundw
          case rel => exact ⟨k + 1, F.getS s' D k, by go_num, by omega, (H3.out.2.2.1.cdr.add H4.out), HR.out, by rw [hct]; exact HI.out.2.2⟩
          case measure => simp [intOf]; omega
        | some i =>
          have hi := least_lt hl
          rw [hl] at HLe
          have hmod : (1920 * k + i) % 1920 = i := by omega
          have HT := hid (fun (w1 : World) (g cap : Nat) (cur : Array Value) (n' : Nat) (h1 : LpX w0 w1 ((g, .cells cur 5 (0, 0)) :: X) p dp (F.getS s' D k) D n' kk) (h2 : w0.heap.size ≤ g) (h3 : ∀ x ∈ X, x.1 ≠ g) (h4 : cur.toList.take (G.mapB s' D k).length = S (G.mapB s' D k)) => show Calls Tryz.prog 73 #[.slice (some ⟨g, 0, none⟩) (G.mapB s' D k).length cap, .int .i64 (1920 * (k : Int) + (i : Int))] w1 (fun e w' => (∃ v, e = .returned v) ∧ Hid (∃ cur', cur'.toList.take (G.mapB s' D k).length = S (G.flip (G.mapB s' D k) i) ∧ LpX w0 w' ((g, .cells cur' 5 (0, 0)) :: X) p dp (F.getS s' D k) D n' kk)) by
            have q := sturn_any h1 h2 h3 h4 cap (1920 * k + i) (by omega) (by rw [hmod]; omega)
            rw [hmod, show ((1920 * k + i : Nat) : Int) = 1920 * (k : Int) + (i : Int) by omega] at q
            exact q)
          have hfl := G.len_flip (G.mapB s' D k) i
          have HP := hid (fun (w1 : World) (g cap : Nat) (cur : Array Value) (h1 : LpX w0 w1 ((g, .cells cur 5 (0, 0)) :: X) p dp (F.getS s' D k) D (n + k + 1) kk) (h4 : cur.toList.take (G.mapB s' D k).length = S (G.flip (G.mapB s' D k) i)) => show Calls Tryz.prog 37 #[Ptr sp, .int .i64 (k : Int), .slice (some ⟨g, 0, none⟩) (G.mapB s' D k).length cap] w1 (fun e w' => e = .returned (.int .i64 (F.putE (F.getS s' D k) k (G.pg k (G.flip (G.mapB s' D k) i)) : Int)) ∧ Hid (LpX w0 w' ((g, .cells cur 5 (0, 0)) :: X) p dp (F.putS (F.getS s' D k) k (G.pg k (G.flip (G.mapB s' D k) i))) D (n + k + 1 + 1) kk)) by
            have q := sput_any h1 (List.mem_cons_of_mem _ HX.out) (by have := H0.out.2.2.1; omega) (k := k) (by omega) g (G.flip (G.mapB s' D k) i) cap (h1.bytes (by rw [hfl]; exact h4)) (by rw [hfl]; omega)
            rw [hfl] at q
            exact q)
          obtain ⟨xl, hxl'⟩ : ∃ xl, xl = (G.mapB s' D k).length := ⟨_, rfl⟩
          have HL := hid hxl'
          rw [← hxl'] at HLe HT HP
          have hk3 : (k : Int) ≤ 3 := by omega
          have hi9 : (i : Int) < 2000 := by omega
          by_cases hp : F.putE (F.getS s' D k) k (G.pg k (G.flip (G.mapB s' D k) i)) = 0
          · rw [alloc_ok hz hl hp] at HR
            rw [hp] at HP
            have HR := hid HR
            clear hz hr hkm hl hmay hxl hx1 hx2 hxl' hfl hp hmod
            go_wp2_with (first
              | (go_at_call 70; refine HG.out.mono ?_; rintro e w1 ⟨g, cap, cur, rfl, H3⟩; rw [← HL.out])
              | (go_at_call 72; refine (HLe.out w1 g cap (by have q := H3.out.2.2.1.spc (List.mem_cons_of_mem _ HX.out); rw [hct] at q; exact q) (H3.out.2.2.1.bytes H3.out.1)).mono ?_; rintro e w2 ⟨rfl, h4⟩; have H4 := hid h4; clear h4; unfold leVal)
              | (go_at_call 73; refine (HT.out w2 g cap cur _ (H3.out.2.2.1.add H4.out) H3.out.2.2.2.1 H3.out.2.2.2.2 (by rw [HL.out]; exact H3.out.1)).mono ?_; rintro e w3 ⟨⟨v, rfl⟩, H5⟩; obtain ⟨cur', h51, h52⟩ := H5.out; have H6 := hid (And.intro h51 h52); clear h51 h52)
              | (go_at_call 37; refine (HP.out w3 g cap cur' H6.out.2 H6.out.1).mono ?_; rintro e w4 ⟨rfl, H7⟩))
            go_ret2
            refine ⟨by rw [← HR.out]; first | rfl | (show Ending.returned (.tuple #[.int .i64 (1920 * (k : Int) + (i : Int)), _]) = _; rw [show ((1920 * k + i : Nat) : Int) = 1920 * (k : Int) + (i : Int) by omega]; rfl), ?_⟩
            rw [← HR.out]
            exact H7.out.cdr.le (by omega)
          · rw [alloc_no hz hl hp] at HR
            have HR := hid HR
            have hp1 : ((F.putE (F.getS s' D k) k (G.pg k (G.flip (G.mapB s' D k) i)) : Int) != 0) = true := by simp; omega
            have hp2 : ¬ (F.putE (F.getS s' D k) k (G.pg k (G.flip (G.mapB s' D k) i)) : Int) = 0 := by omega
            generalize F.putE (F.getS s' D k) k (G.pg k (G.flip (G.mapB s' D k) i)) = ze at *
            clear hz hr hkm hl hmay hxl hx1 hx2 hxl' hfl hp hmod
            go_wp2_with (first
              | (go_at_call 70; refine HG.out.mono ?_; rintro e w1 ⟨g, cap, cur, rfl, H3⟩; rw [← HL.out])
              | (go_at_call 72; refine (HLe.out w1 g cap (by have q := H3.out.2.2.1.spc (List.mem_cons_of_mem _ HX.out); rw [hct] at q; exact q) (H3.out.2.2.1.bytes H3.out.1)).mono ?_; rintro e w2 ⟨rfl, h4⟩; have H4 := hid h4; clear h4; unfold leVal)
              | (go_at_call 73; refine (HT.out w2 g cap cur _ (H3.out.2.2.1.add H4.out) H3.out.2.2.2.1 H3.out.2.2.2.2 (by rw [HL.out]; exact H3.out.1)).mono ?_; rintro e w3 ⟨⟨v, rfl⟩, H5⟩; obtain ⟨cur', h51, h52⟩ := H5.out; have H6 := hid (And.intro h51 h52); clear h51 h52)
              | (go_at_call 37; refine (HP.out w3 g cap cur' H6.out.2 H6.out.1).mono ?_; rintro e w4 ⟨rfl, H7⟩))
            go_ret2
            refine ⟨by rw [← HR.out]; rfl, ?_⟩
            rw [← HR.out]
            exact H7.out.cdr.le (by omega)
      · have HG := hid (sget_bad HI.out.1 HX.out (by have := H0.out.2.2.1; omega) H0.out.2.2.2.1 hkm hz)
        rw [alloc_bad hz] at HR
        have HR := hid HR
        have hz1 : ((G.mapE s' D k : Int) != 0) = true := by simp; omega
        have hz2 : ¬ (G.mapE s' D k : Int) = 0 := by omega
        generalize G.mapE s' D k = ze at *
        clear hz hr hkm
        go_wp2_with (go_at_call 70; refine HG.out.mono ?_; rintro e w1 ⟨rfl, H3⟩)
        go_ret2
        refine ⟨by rw [← HR.out]; rfl, ?_⟩
        rw [← HR.out]
        exact H3.out.le (by omega)
    · obtain rfl : k = M := by omega
      have HR := hid HI.out.2.1
      rw [Nat.sub_self] at HR
      go_wp2_with fail
      go_ret2
      refine ⟨by rw [← HR.out]; rfl, ?_⟩
      rw [← HR.out]
      exact HI.out.1.le (by omega)
end Go.Proofs.YtjlennpoaefllaaGreatDoor

/- Free. -/
namespace Go.Proofs.YtjlennpoaefllaaGreatDoor
open Go.RowKit

def PFr (w0 : World) (X : List (Nat × Obj)) (p dp : Nat) (D : dSt) (n kk : Nat) (R : Nat × F.Po) (e : Ending) (w' : World) : Prop := e = .returned (.int .i64 (R.1 : Int)) ∧ Hid (LpX w0 w' X p dp R.2 D n kk)
set_option maxRecDepth 100000 in
theorem free_inv {D : dSt} {s : F.Po} {no : Int} (h : no < (G.maps (G.cnt s) : Int) ∨ s.ct ≤ no) : G.freeG D s no = (2, s) := by unfold G.freeG; rw [if_pos h]
set_option maxRecDepth 100000 in
set_option maxHeartbeats 4000000 in
theorem sfree_any {w0 w : World} {X : List (Nat × Obj)} {p dp : Nat} {s : F.Po} {D : dSt} {n kk sp : Nat} (h : LpX w0 w X p dp s D n kk) (hX : (sp, SBox p) ∈ X) (hn : n + 10 ≤ 1000000) (hk9 : kk ≤ 900) (no : Int) :
    Calls Tryz.prog 32 #[Ptr sp, .int .i64 no] w (PFr w0 X p dp D (n + 10) kk (G.freeG D s no)) := by
  have hc := h.pok.cnt
  have hm3 := G.maps_le hc.2.1
  have H1 := hid (smade_any (h.spc hX) hc.1)
  have H2 := hid (smaps_any (h.spc hX) hc.2.1)
  have H3 := hid (scount_any (h.spc hX))
  have c0 : w.cell? ⟨sp, 0, none⟩ = some (Ptr p) := by rw [cellOf (h.at _ hX)]; rfl
  have hmc := G.maps_lt (c := G.cnt s) (k := 0) (G.maps_pos hc.1)
  by_cases q1 : no < (G.maps (G.cnt s) : Int)
  · rw [free_inv (.inl q1)]
    have H0 := hid h
    clear h hX hc hn hk9
    unfold Ptr at *
    go_enter Tryz.func32, Tryz.ntmps32
    go_wp2_with (first
      | (go_at_call 35; refine H1.out.mono ?_; rintro e w1 ⟨rfl, hw⟩; rw [hw]; clear hw)
      | (go_at_call 36; refine H2.out.mono ?_; rintro e w1 ⟨rfl, hw⟩; rw [hw]; clear hw)
      | (go_at_call 74; refine H3.out.mono ?_; rintro e w1 ⟨rfl, hw⟩; rw [hw]; clear hw))
    go_ret
    exact ⟨rfl, H0.out.le (by omega)⟩
  · by_cases q2 : (G.cnt s : Int) ≤ no
    · rw [free_inv (.inr (by rw [← hc.2.2]; exact q2))]
      have H0 := hid h
      clear h hX hc hn hk9
      unfold Ptr at *
      go_enter Tryz.func32, Tryz.ntmps32
      go_wp2_with (first
        | (go_at_call 35; refine H1.out.mono ?_; rintro e w1 ⟨rfl, hw⟩; rw [hw]; clear hw)
        | (go_at_call 36; refine H2.out.mono ?_; rintro e w1 ⟨rfl, hw⟩; rw [hw]; clear hw)
        | (go_at_call 74; refine H3.out.mono ?_; rintro e w1 ⟨rfl, hw⟩; rw [hw]; clear hw))
      go_ret
      exact ⟨rfl, H0.out.le (by omega)⟩
    · obtain ⟨m, rfl⟩ : ∃ m : Nat, no = (m : Int) := ⟨no.toNat, by omega⟩
      obtain ⟨k, hkd⟩ : ∃ k, k = m / 1920 := ⟨_, rfl⟩
      have hk : k < G.maps (G.cnt s) := by unfold G.maps; omega
      have hfree : G.freeG D s (m : Int) = (if G.mapE s D k = 0 then (if G.bit (G.mapB s D k) (m % 1920) then (F.putE (F.getS s D k) k (G.pg k (G.flip (G.mapB s D k) (m % 1920))), F.putS (F.getS s D k) k (G.pg k (G.flip (G.mapB s D k) (m % 1920)))) else (40, F.getS s D k)) else (G.mapE s D k, F.getS s D k)) := by
        unfold G.freeG
        rw [if_neg (by rw [← hc.2.2]; omega), Int.toNat_natCast, ← hkd]
      have hkq : (m : Int) / 1920 = (k : Int) := by rw [hkd]; rfl
      have hm0 : (0 : Int) ≤ (m : Int) := by omega
      have hm9 : (m : Int) < 5000 := by omega
      by_cases hz : G.mapE s D k = 0
      · rw [if_pos hz] at hfree
        have HG := hid (sget_ok h hX (by omega) hk9 hk hz)
        have hxl := G.may_len (G.mapB_may hz).2.2.1
        have hx1 := G.cells_pos hk
        have hx2 := G.cells_le (G.cnt s) k
        have hin : m % 1920 / 8 < (G.mapB s D k).length := by rw [hxl, hkd]; unfold G.cells G.size; omega
        have HT := hid (fun (w1 : World) (g cap : Nat) (h2 : At w1 (some ⟨g, 0, none⟩) (G.mapB s D k)) => isTaken_any w1 g 0 cap (G.mapB s D k) (G.mapB s D k).length rfl m (by omega) h2 hin)
        by_cases hb : G.bit (G.mapB s D k) (m % 1920) = true
        · rw [if_pos hb] at hfree
          rw [hb] at HT
          rw [hfree]
          have HU := hid (fun (w1 : World) (g cap : Nat) (cur : Array Value) (h1 : LpX w0 w1 ((g, .cells cur 5 (0, 0)) :: X) p dp (F.getS s D k) D (n + 1) kk) (h2 : w0.heap.size ≤ g) (h3 : ∀ x ∈ X, x.1 ≠ g) (h4 : cur.toList.take (G.mapB s D k).length = S (G.mapB s D k)) => sturn_any h1 h2 h3 h4 cap m (by omega) hin)
          have hfl := G.len_flip (G.mapB s D k) (m % 1920)
          have HP := hid (fun (w1 : World) (g cap : Nat) (cur : Array Value) (h1 : LpX w0 w1 ((g, .cells cur 5 (0, 0)) :: X) p dp (F.getS s D k) D (n + 1) kk) (h4 : cur.toList.take (G.mapB s D k).length = S (G.flip (G.mapB s D k) (m % 1920))) => show Calls Tryz.prog 37 #[Ptr sp, .int .i64 (k : Int), .slice (some ⟨g, 0, none⟩) (G.mapB s D k).length cap] w1 (fun e w' => e = .returned (.int .i64 (F.putE (F.getS s D k) k (G.pg k (G.flip (G.mapB s D k) (m % 1920))) : Int)) ∧ Hid (LpX w0 w' ((g, .cells cur 5 (0, 0)) :: X) p dp (F.putS (F.getS s D k) k (G.pg k (G.flip (G.mapB s D k) (m % 1920)))) D (n + 1 + 1) kk)) by
            have q := sput_any h1 (List.mem_cons_of_mem _ hX) (by omega) (k := k) (by omega) g (G.flip (G.mapB s D k) (m % 1920)) cap (h1.bytes (by rw [hfl]; exact h4)) (by rw [hfl]; omega)
            rw [hfl] at q
            exact q)
          obtain ⟨xl, hxl'⟩ : ∃ xl, xl = (G.mapB s D k).length := ⟨_, rfl⟩
          have HL := hid hxl'
          rw [← hxl'] at HT HU HP
          clear h hX hc hn hk9 hz hxl hx1 hx2 hin hb hfl hxl' hk hkd hfree
          unfold Ptr at *
          go_enter Tryz.func32, Tryz.ntmps32
          go_wp2_with (first
            | (go_at_call 35; refine H1.out.mono ?_; rintro e w1 ⟨rfl, hw⟩; rw [hw]; clear hw)
            | (go_at_call 36; refine H2.out.mono ?_; rintro e w1 ⟨rfl, hw⟩; rw [hw]; clear hw)
            | (go_at_call 74; refine H3.out.mono ?_; rintro e w1 ⟨rfl, hw⟩; rw [hw]; clear hw)
            | (go_at_call 70; refine HG.out.mono ?_; rintro e w1 ⟨g, cap, cur, rfl, H4⟩; rw [← HL.out])
            | (go_at_call 75; refine (HT.out _ g cap (H4.out.2.2.1.bytes H4.out.1)).mono ?_; rintro e w2 ⟨rfl, nd, hw⟩; have H5 := hid (show Adds _ w2 by rw [hw]; exact adds_drewN _ nd); clear hw)
            | (go_at_call 73; refine (HU.out w2 g cap cur (H4.out.2.2.1.add H5.out) H4.out.2.2.2.1 H4.out.2.2.2.2 (by rw [HL.out]; exact H4.out.1)).mono ?_; rintro e w3 ⟨⟨v, rfl⟩, H6⟩; obtain ⟨cur', h61, h62⟩ := H6.out; have H7 := hid (And.intro h61 h62); clear h61 h62)
            | (go_at_call 37; refine (HP.out w3 g cap cur' H7.out.2 H7.out.1).mono ?_; rintro e w4 ⟨rfl, H8⟩))
          go_ret
          exact ⟨rfl, H8.out.cdr.le (by omega)⟩
        · have hb' : G.bit (G.mapB s D k) (m % 1920) = false := by simpa using hb
          rw [if_neg hb] at hfree
          rw [hb'] at HT
          rw [hfree]
          obtain ⟨xl, hxl'⟩ : ∃ xl, xl = (G.mapB s D k).length := ⟨_, rfl⟩
          have HL := hid hxl'
          rw [← hxl'] at HT
          clear h hX hc hn hk9 hz hxl hx1 hx2 hin hb hb' hxl' hk hkd hfree
          unfold Ptr at *
          go_enter Tryz.func32, Tryz.ntmps32
          go_wp2_with (first
            | (go_at_call 35; refine H1.out.mono ?_; rintro e w1 ⟨rfl, hw⟩; rw [hw]; clear hw)
            | (go_at_call 36; refine H2.out.mono ?_; rintro e w1 ⟨rfl, hw⟩; rw [hw]; clear hw)
            | (go_at_call 74; refine H3.out.mono ?_; rintro e w1 ⟨rfl, hw⟩; rw [hw]; clear hw)
            | (go_at_call 70; refine HG.out.mono ?_; rintro e w1 ⟨g, cap, cur, rfl, H4⟩; rw [← HL.out])
            | (go_at_call 75; refine (HT.out _ g cap (H4.out.2.2.1.bytes H4.out.1)).mono ?_; rintro e w2 ⟨rfl, nd, hw⟩; have H5 := hid (show Adds _ w2 by rw [hw]; exact adds_drewN _ nd); clear hw))
          go_ret
          exact ⟨rfl, (H4.out.2.2.1.add H5.out).cdr.le (by omega)⟩
      · rw [if_neg hz] at hfree
        rw [hfree]
        have HG := hid (sget_bad h hX (by omega) hk9 hk hz)
        have hz1 : ((G.mapE s D k : Int) != 0) = true := by simp; omega
        have hz2 : ¬ (G.mapE s D k : Int) = 0 := by omega
        generalize G.mapE s D k = ze at *
        clear h hX hc hn hk9 hz hk hkd hfree
        unfold Ptr at *
        go_enter Tryz.func32, Tryz.ntmps32
        go_wp2_with (first
          | (go_at_call 35; refine H1.out.mono ?_; rintro e w1 ⟨rfl, hw⟩; rw [hw]; clear hw)
          | (go_at_call 36; refine H2.out.mono ?_; rintro e w1 ⟨rfl, hw⟩; rw [hw]; clear hw)
          | (go_at_call 74; refine H3.out.mono ?_; rintro e w1 ⟨rfl, hw⟩; rw [hw]; clear hw)
          | (go_at_call 70; refine HG.out.mono ?_; rintro e w1 ⟨rfl, H4⟩))
        go_ret
        exact ⟨rfl, H4.out.le (by omega)⟩
end Go.Proofs.YtjlennpoaefllaaGreatDoor
