/- Format, where each map can be put. -/
import Derived.Test.YtokbiekdompaoaaDoorQ37
import Derived.Test.YtokbiekdompaoaaDoorQ41
namespace Go.Proofs.YtokbiekdompaoaaDoor
open Go.RowKit

def PFm (w0 : World) (X : List (Nat × Obj)) (p dp : Nat) (D : dSt) (n kk : Nat) (s : F.Po) (e : Ending) (w' : World) : Prop := ∃ sp, e = .returned (.tuple #[Ptr sp, .int .i64 0]) ∧ Hid (LpX w0 w' ((sp, SBox p) :: X) p dp s D n kk ∧ w0.heap.size ≤ sp ∧ ∀ x ∈ X, x.1 ≠ sp)
set_option maxRecDepth 100000 in
theorem format_ok {r k : Nat} {s : F.Po} (h : (G.formatG (r + 1) k s).1 = 0) : F.putE s k (G.pg k (G.first (G.cnt s) k)) = 0 ∧ G.formatG (r + 1) k s = G.formatG r (k + 1) (F.putS s k (G.pg k (G.first (G.cnt s) k))) := by
  unfold G.formatG at h
  split at h
  · rename_i q
    exact ⟨q, by conv => lhs; unfold G.formatG; rw [if_pos q]⟩
  · rename_i q
    exact absurd h q
set_option maxRecDepth 100000 in
set_option maxHeartbeats 4000000 in
theorem sformat_ok {w0 w : World} {X : List (Nat × Obj)} {p dp : Nat} {s : F.Po} {D : dSt} {n kk : Nat} (h : LpX w0 w X p dp s D n kk) (hn : n + 10 ≤ 1000000) (hz : (G.formatG (G.maps (G.cnt s)) 0 s).1 = 0) :
    Calls Tryd.prog 9 #[Ptr p] w (PFm w0 X p dp D (n + 10) kk (G.formatG (G.maps (G.cnt s)) 0 s).2) := by
  have hc := h.pok.cnt
  have hm3 := G.maps_le hc.2.1
  obtain ⟨M, hM⟩ : ∃ M, M = G.maps (G.cnt s) := ⟨_, rfl⟩
  obtain ⟨sp, hsp⟩ : ∃ sp, sp = w.heap.size := ⟨_, rfl⟩
  have h1 : LpX w0 (w.alloc (.cells #[Ptr p] 47)) ((sp, SBox p) :: X) p dp s D n kk := by rw [hsp]; exact h.more ((Touch.refl _ w).alloc _) w.heap.size _ (heap_alloc_new w _) (Nat.le_refl _)
  have h2 : w0.heap.size ≤ sp := by rw [hsp]; exact h.e.adds.size
  have h3 : ∀ x ∈ X, x.1 ≠ sp := fun x hx e => by have := (Array.getElem?_eq_some_iff.1 (h.at x hx)).1; omega
  have H1 := hid (smade_any (h1.spc List.mem_cons_self) hc.1)
  have H2 := hid (smaps_any (h1.spc List.mem_cons_self) hc.2.1)
  obtain ⟨R, hR⟩ : ∃ R, R = G.formatG (G.maps (G.cnt s)) 0 s := ⟨_, rfl⟩
  rw [← hR] at hz ⊢
  rw [← hM] at H2 hm3 hR
  have H0 := hid (And.intro h1 (And.intro hR (And.intro hn (And.intro hM (And.intro h2 (And.intro h3 (And.intro hz hc)))))))
  obtain ⟨wA, hwA⟩ : ∃ wA, wA = w.alloc (.cells #[Ptr p] 47) := ⟨_, rfl⟩
  rw [← hwA] at H0 H1 H2
  have HS := hid hsp
  unfold Ptr at *
  clear h hc hM hR hn h1 h2 h3 hz
  go_enter Tryd.func9, Tryd.ntmps9
  go_upto_region 2 with fail
  rw [← hwA, ← hsp]
  clear hwA hsp
  go_wp2_with (first
    | (go_at_call 22; refine H1.out.mono ?_; rintro e w1 ⟨rfl, hw⟩; rw [hw]; clear hw)
    | (go_at_call 10; refine H2.out.mono ?_; rintro e w1 ⟨rfl, hw⟩; rw [hw]; clear hw))
  go_loopw [15] (fun i wr => ∃ (k : Nat) (s' : F.Po), i = .int .i64 (k : Int) ∧ k ≤ M ∧ Hid (LpX w0 wr ((sp, SBox p) :: X) p dp s' D (n + k) kk ∧ G.formatG (M - k) k s' = R ∧ G.cnt s' = G.cnt s)) (fun i _ => M - (intOf i).toNat)
  case atStart =>
    exact ⟨0, s, rfl, Nat.zero_le _, H0.out.1, H0.out.2.1.symm, rfl⟩
  case round =>
    obtain ⟨k, s', rfl, hk, HI⟩ := hrel
    by_cases hlt : k < M
    · have hlt' : (k : Int) < (M : Int) := by omega
      have hr : M - k = (M - (k + 1)) + 1 := by omega
      have hkm : k < G.maps (G.cnt s') := by rw [HI.out.2.2, ← H0.out.2.2.2.1]; exact hlt
      have HR := HI.out.2.1
      rw [hr] at HR
      obtain ⟨hp, hnx⟩ := format_ok (r := M - (k + 1)) (k := k) (s := s') (by rw [HR]; exact H0.out.2.2.2.2.2.2.1)
      rw [hnx] at HR
      have HR := hid HR
      have hpc := HI.out.1.pok.cnt
      have HF := hid (sfirst_any (HI.out.1.spc List.mem_cons_self) hpc.2.1 hkm)
      have hfl : (G.first (G.cnt s') k).length ≤ 240 := by rw [G.len_first]; exact G.cells_le _ _
      have HP := hid (fun (w1 : World) (hA : Adds wr w1) (g cap : Nat) (hAt : At w1 (some ⟨g, 0, none⟩) (G.first (G.cnt s') k)) => show Calls Tryd.prog 23 #[Ptr sp, .int .i64 (k : Int), .slice (some ⟨g, 0, none⟩) (G.first (G.cnt s') k).length cap] w1 (fun e w' => e = .returned (.int .i64 0) ∧ Hid (LpX w0 w' ((sp, SBox p) :: X) p dp (F.putS s' k (G.pg k (G.first (G.cnt s') k))) D (n + k + 1) kk)) by
        have q := sput_any (HI.out.1.add hA) List.mem_cons_self (by have := H0.out.2.2.1; omega) (k := k) (by omega) g (G.first (G.cnt s') k) cap hAt hfl
        rw [hp] at q
        exact q)
      have HCT := hid (G.put_ct s' (k : Int) (G.pg k (G.first (G.cnt s') k)))
      unfold Ptr at *
      clear hr hkm hp hnx hpc hfl
      go_wp2_with (first
        | (go_at_call 24; refine HF.out.mono ?_; rintro e w1 ⟨g, cap, rfl, H3⟩)
        | (go_at_call 23; refine (HP.out w1 H3.out.2.2.2 g cap H3.out.1.at).mono ?_; rintro e w2 ⟨rfl, H4⟩))
      go_roundw
      case rel => exact ⟨k + 1, _, by go_num, by omega, H4.out, HR.out, by rw [HCT.out]; exact HI.out.2.2⟩
      case measure => simp [intOf]; omega
    · obtain rfl : k = M := by omega
      have HR := hid HI.out.2.1
      rw [Nat.sub_self] at HR
      go_wp2_with fail
      go_ret2
      refine ⟨sp, rfl, ?_, H0.out.2.2.2.2.1, H0.out.2.2.2.2.2.1⟩
      rw [← HR.out]
      exact HI.out.1.le (by omega)
end Go.Proofs.YtokbiekdompaoaaDoor
