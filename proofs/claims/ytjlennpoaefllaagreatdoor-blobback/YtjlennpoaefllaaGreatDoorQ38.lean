/- Texts put together: FR3, GFormat, GForm, KMade, KSp, KAlloc, KPut, KPut2, KRd. -/
import Derived.Test.YtjlennpoaefllaaGreatDoorQ37
import Derived.Test.YtjlennpoaefllaaGreatDoorQ16
import Derived.Test.YtjlennpoaefllaaGreatDoorQ27
import Derived.Test.YtjlennpoaefllaaGreatDoorQ26
import Derived.Test.YtjlennpoaefllaaGreatDoorQ35
import Derived.Test.YtjlennpoaefllaaGreatDoorQ36
import Derived.Test.YtjlennpoaefllaaGreatDoorQ07
import Derived.Test.YtjlennpoaefllaaGreatDoorQ25
/- What an act of a pair of pools leaves; losses. -/
namespace Go.Proofs.YtjlennpoaefllaaGreatDoor
open Go.RowKit
theorem KeptAt.adds {w w' : World} {ka : Option Addr} {ks : List Bool} (h : KeptAt w ka ks) (hA : Adds w w') : KeptAt w' ka ks := fun j hj => by
  obtain ⟨b, o, e, hc⟩ := h j hj
  exact ⟨b, o, e, below_adds hA hc⟩
set_option maxRecDepth 100000 in
theorem ref_lost {w w' : World} {E : dSt} {e : Ending} (h : PRLose w w.heap.size E e w') : ∃ p, e = .returned (.tuple #[Ptr p, .int .i64 0]) ∧ Hid (∃ OR, IsRO w' OR p E ∧ (∀ k, OR k → w.heap.size ≤ k ∧ k < w'.heap.size) ∧ Adds w w') := by
  obtain ⟨p, hv, he, hp, hr, hA⟩ := h
  refine ⟨p, he, fun k => w.heap.size ≤ k ∧ k < w'.heap.size, ⟨hv, _, hr.mono (Nat.zero_le _), ⟨hp, (Array.getElem?_eq_some_iff.1 hr.box).1⟩, fun k hk => ?_, fun k hk => (by cases hk)⟩, fun k c => c, hA⟩
  obtain ⟨_, hc⟩ := own_type hr.held hk
  refine ⟨?_, (Array.getElem?_eq_some_iff.1 hc).1⟩
  rcases hr.held.2 with ⟨c, _⟩ | ⟨g, cap, cur, c, hb, _⟩
  · rw [c] at hk; cases hk
  · rw [c] at hk
    obtain rfl : g = k := by simpa [Value.ownBlock] using hk
    exact hb
set_option maxRecDepth 100000 in
/-- The pair's box turns. -/
theorem PdE11.box {w0 w w' : World} {d r pp : Nat} {o o' : Obj} {X : List (Nat × Obj)} {D D' : dSt} (h : PdE11 w0 w X d r D D') (hm : (pp, o) ∈ X) (hT : Touch (fun k => k = pp) w w') (hpp : w0.heap.size ≤ pp) (ho : w'.heap[pp]? = some o') : PdE11 w0 w' [(pp, o')] d r D D' := by
  obtain ⟨OD, OR, h⟩ := h
  have hn := (h.oth _ hm).2
  refine ⟨OD, OR, h.dk.touch hT (fun k c e => hn (.inl (by rw [← e]; exact c))), h.ro.touch hT (fun k c e => hn (.inr (by rw [← e]; exact c))), h.ap, h.low, fun k c => Nat.lt_of_lt_of_le (h.lt k c) hT.size, h.base.then hT (fun k hk c => by omega), fun x hx => ?_⟩
  obtain rfl := List.mem_singleton.1 hx
  exact ⟨ho, hn⟩
theorem dnew_ok11 (n : Int) (k : Nat) (h : 0 < n) : DOk (dSt.new n) k := ⟨Nat.zero_le _, Int.le_refl _, by show (0 : Int) ≤ k; omega, Int.le_refl _, by show (-1 : Int) ≤ _; decide, h⟩
/-- Bytes turn, all else stays. -/
def TrnB (T : Nat → Prop) (w wr : World) : Prop := Touch T w wr ∧ (∀ a z, w.cell? a = some (.int .u8 z) → ∃ z', wr.cell? a = some (.int .u8 z')) ∧ ∀ a, wr.frozen? a = w.frozen? a
theorem TrnB.refl (T : Nat → Prop) (w : World) : TrnB T w w := ⟨Touch.refl _ _, fun _ z h => ⟨z, h⟩, fun _ => rfl⟩
set_option maxRecDepth 100000 in
theorem TrnB.set {T : Nat → Prop} {w wr : World} (h : TrnB T w wr) {g j : Nat} (hB : T g) (z' : Int) : TrnB T w (wr.setCell ⟨g, j, none⟩ (.int .u8 z')) := by
  refine ⟨Touch.setCell (T := T) h.1 (p := ⟨g, j, none⟩) (fun _ => hB) _, fun a z0 ha => ?_, fun a => by rw [World.frozen?_setCell]; exact h.2.2 a⟩
  by_cases e : (⟨g, j, none⟩ : Addr) = a
  · obtain ⟨z1, h1⟩ := h.2.1 a z0 ha
    rw [← e] at h1 ⊢
    exact ⟨z', World.cell?_setCell_same _ _ _ h1⟩
  · rw [World.cell?_setCell_other _ _ _ _ e]
    exact h.2.1 a z0 ha
end Go.Proofs.YtjlennpoaefllaaGreatDoor

/- Format, where each map can be put. -/
namespace Go.Proofs.YtjlennpoaefllaaGreatDoor
open Go.RowKit

def PFm (w0 : World) (X : List (Nat × Obj)) (p dp : Nat) (D : dSt) (n kk : Nat) (s : F.Po) (e : Ending) (w' : World) : Prop := ∃ sp, e = .returned (.tuple #[Ptr sp, .int .i64 0]) ∧ Hid (LpX w0 w' ((sp, SBox p) :: X) p dp s D n kk ∧ w0.heap.size ≤ sp ∧ ∀ x ∈ X, x.1 ≠ sp)
set_option maxRecDepth 100000 in
theorem format_ok {r k : Nat} {s : F.Po} (h : (G.formatG (r + 1) k s).1 = 0) : F.putE s k (G.pg k (G.first (G.cnt s) k)) = 0 ∧ G.formatG (r + 1) k s = G.formatG r (k + 1) (F.putS s k (G.pg k (G.first (G.cnt s) k))) := by
  unfold G.formatG at h
  split at h
  · rename_i q
    exact ⟨q, by conv => lhs; unfold G.formatG; rw [if_pos q]⟩
  · rename_i q
    exact absurd h q
set_option maxRecDepth 100000 in
set_option maxHeartbeats 4000000 in
theorem sformat_ok {w0 w : World} {X : List (Nat × Obj)} {p dp : Nat} {s : F.Po} {D : dSt} {n kk : Nat} (h : LpX w0 w X p dp s D n kk) (hn : n + 10 ≤ 1000000) (hz : (G.formatG (G.maps (G.cnt s)) 0 s).1 = 0) :
    Calls Tryz.prog 13 #[Ptr p] w (PFm w0 X p dp D (n + 10) kk (G.formatG (G.maps (G.cnt s)) 0 s).2) := by
  have hc := h.pok.cnt
  have hm3 := G.maps_le hc.2.1
  obtain ⟨M, hM⟩ : ∃ M, M = G.maps (G.cnt s) := ⟨_, rfl⟩
  obtain ⟨sp, hsp⟩ : ∃ sp, sp = w.heap.size := ⟨_, rfl⟩
  have h1 : LpX w0 (w.alloc (.cells #[Ptr p] 58)) ((sp, SBox p) :: X) p dp s D n kk := by rw [hsp]; exact h.more ((Touch.refl _ w).alloc _) w.heap.size _ (heap_alloc_new w _) (Nat.le_refl _)
  have h2 : w0.heap.size ≤ sp := by rw [hsp]; exact h.e.adds.size
  have h3 : ∀ x ∈ X, x.1 ≠ sp := fun x hx e => by have := (Array.getElem?_eq_some_iff.1 (h.at x hx)).1; omega
  have H1 := hid (smade_any (h1.spc List.mem_cons_self) hc.1)
  have H2 := hid (smaps_any (h1.spc List.mem_cons_self) hc.2.1)
  obtain ⟨R, hR⟩ : ∃ R, R = G.formatG (G.maps (G.cnt s)) 0 s := ⟨_, rfl⟩
  rw [← hR] at hz ⊢
  rw [← hM] at H2 hm3 hR
  have H0 := hid (And.intro h1 (And.intro hR (And.intro hn (And.intro hM (And.intro h2 (And.intro h3 (And.intro hz hc)))))))
  obtain ⟨wA, hwA⟩ : ∃ wA, wA = w.alloc (.cells #[Ptr p] 58) := ⟨_, rfl⟩
  rw [← hwA] at H0 H1 H2
  have HS := hid hsp
  unfold Ptr at *
  clear h hc hM hR hn h1 h2 h3 hz
  go_enter Tryz.func13, Tryz.ntmps13
  go_upto_region 2 with fail
  rw [← hwA, ← hsp]
  clear hwA hsp
  go_wp2_with (first
    | (go_at_call 35; refine H1.out.mono ?_; rintro e w1 ⟨rfl, hw⟩; rw [hw]; clear hw)
    | (go_at_call 36; refine H2.out.mono ?_; rintro e w1 ⟨rfl, hw⟩; rw [hw]; clear hw))
  go_loopw [15] (fun i wr => ∃ (k : Nat) (s' : F.Po), i = .int .i64 (k : Int) ∧ k ≤ M ∧ Hid (LpX w0 wr ((sp, SBox p) :: X) p dp s' D (n + k) kk ∧ G.formatG (M - k) k s' = R ∧ G.cnt s' = G.cnt s)) (fun i _ => M - (intOf i).toNat)
  case atStart =>
    exact ⟨0, s, rfl, Nat.zero_le _, H0.out.1, H0.out.2.1.symm, rfl⟩
  case round =>
    obtain ⟨k, s', rfl, hk, HI⟩ := hrel
    by_cases hlt : k < M
    · have hlt' : (k : Int) < (M : Int) := by omega
      have hr : M - k = (M - (k + 1)) + 1 := by omega
      have hkm : k < G.maps (G.cnt s') := by rw [HI.out.2.2, ← H0.out.2.2.2.1]; exact hlt
      have HR := HI.out.2.1
      rw [hr] at HR
      obtain ⟨hp, hnx⟩ := format_ok (r := M - (k + 1)) (k := k) (s := s') (by rw [HR]; exact H0.out.2.2.2.2.2.2.1)
      rw [hnx] at HR
      have HR := hid HR
      have hpc := HI.out.1.pok.cnt
      have HF := hid (sfirst_any (HI.out.1.spc List.mem_cons_self) hpc.2.1 hkm)
      have hfl : (G.first (G.cnt s') k).length ≤ 240 := by rw [G.len_first]; exact G.cells_le _ _
      have HP := hid (fun (w1 : World) (hA : Adds wr w1) (g cap : Nat) (hAt : At w1 (some ⟨g, 0, none⟩) (G.first (G.cnt s') k)) => show Calls Tryz.prog 37 #[Ptr sp, .int .i64 (k : Int), .slice (some ⟨g, 0, none⟩) (G.first (G.cnt s') k).length cap] w1 (fun e w' => e = .returned (.int .i64 0) ∧ Hid (LpX w0 w' ((sp, SBox p) :: X) p dp (F.putS s' k (G.pg k (G.first (G.cnt s') k))) D (n + k + 1) kk)) by
        have q := sput_any (HI.out.1.add hA) List.mem_cons_self (by have := H0.out.2.2.1; omega) (k := k) (by omega) g (G.first (G.cnt s') k) cap hAt hfl
        rw [hp] at q
        exact q)
      have HCT := hid (G.put_ct s' (k : Int) (G.pg k (G.first (G.cnt s') k)))
      unfold Ptr at *
      clear hr hkm hp hnx hpc hfl
      go_wp2_with (first
        | (go_at_call 38; refine HF.out.mono ?_; rintro e w1 ⟨g, cap, rfl, H3⟩)
        | (go_at_call 37; refine (HP.out w1 H3.out.2.2.2 g cap H3.out.1.at).mono ?_; rintro e w2 ⟨rfl, H4⟩))
      go_roundw
      case rel => exact ⟨k + 1, _, by go_num, by omega, H4.out, HR.out, by rw [HCT.out]; exact HI.out.2.2⟩
      case measure => simp [intOf]; omega
    · obtain rfl : k = M := by omega
      have HR := hid HI.out.2.1
      rw [Nat.sub_self] at HR
      go_wp2_with fail
      go_ret2
      refine ⟨sp, rfl, ?_, H0.out.2.2.2.2.1, H0.out.2.2.2.2.2.1⟩
      rw [← HR.out]
      exact HI.out.1.le (by omega)
end Go.Proofs.YtjlennpoaefllaaGreatDoor

/- Left; a space over a pool of its own. -/
namespace Go.Proofs.YtjlennpoaefllaaGreatDoor
open Go.RowKit

end Go.Proofs.YtjlennpoaefllaaGreatDoor

/- A space on both sides. -/
namespace Go.Proofs.YtjlennpoaefllaaGreatDoor
open Go.RowKit

set_option maxRecDepth 100000 in
theorem pd_new0 {w w1 w2 : World} {p hb r : Nat} {n : Int} (hp : w.heap.size ≤ p) (hhb : w.heap.size ≤ hb) (hd : IsDisk w1 w.heap.size p hb (.slice none 0 0) (dSt.new n)) (hA : Adds w w1) (h2 : ∃ OR, IsRO w2 OR r (dSt.new n) ∧ (∀ k, OR k → w1.heap.size ≤ k ∧ k < w2.heap.size) ∧ Adds w1 w2) :
    PdE11 w w2 [] p r (dSt.new n) (dSt.new n) := by
  obtain ⟨OR, b1, b2, b3⟩ := h2
  have q1 := (Array.getElem?_eq_some_iff.1 hd.box).1
  obtain ⟨es, cl, q2, _⟩ := hd.held
  have q2 := (Array.getElem?_eq_some_iff.1 q2).1
  have z1 := hA.size
  have z2 := b3.size
  have od : ∀ k, (k = p ∨ k = hb) → w.heap.size ≤ k ∧ k < w1.heap.size := fun k c => by rcases c with rfl | rfl <;> omega
  refine ⟨fun k => k = p ∨ k = hb, OR, (show IsDO w1 (fun k => k = p ∨ k = hb) p (dSt.new n) from ⟨hb, _, hd.mono (Nat.zero_le _), .inl rfl, .inr rfl, fun k hk => (by cases hk)⟩).adds b3, b1, fun k c c' => ?_, fun k c => ?_, fun k c => ?_, hA.trans b3, fun x hx => by cases hx⟩
  · have := od k c; have := b2 k c'; omega
  · rcases c with c | c
    · exact (od k c).1
    · have := b2 k c; omega
  · rcases c with c | c
    · have := od k c; omega
    · exact (b2 k c).2
/-- A state of a pool that was formatted. -/
def S0 (c m : Nat) : F.Po := G.S1 c m (G.first c 0) true false []
theorem nil0 (fr ct mo : Int) : F.Nil ⟨fr, ct, mo, []⟩ := fun f hf => by cases hf
/-- What Made leaves. -/
def PMade (w : World) (c m : Nat) (e : Ending) (w' : World) : Prop := ∃ sp p d q r, e = .returned (.tuple #[Ptr sp, Ptr q]) ∧ Hid (PwE w w' [(sp, SBox p)] p d q r (S0 c m) (S0 c m) (dSt.new c) (dSt.new c) 10 0 ∧ w.heap.size ≤ sp)
set_option maxRecDepth 100000 in
set_option maxHeartbeats 4000000 in
theorem kmade_any (c m : Nat) (hc : 1 ≤ c) (hc2 : c ≤ 1920) (hm : 1 ≤ m) (hm2 : m ≤ 256) (w : World) (hT : Tab w) : Calls Tryz.prog 19 #[.int .i64 (c : Int), .int .i64 (m : Int)] w (PMade w c m) := by
  have HN := hid (new_yes (c : Int) w w.heap.size (Nat.le_refl _) (by omega) (by omega))
  have HR := hid (fun w1 => rnew_yes (c : Int) w1 w1.heap.size (Nat.le_refl _) (by omega) (by omega))
  have hok : F.openOk (dSt.new c) 0 c m = true := decide_eq_true ⟨by decide, by omega, by omega, by show (0 : Int) + c ≤ c; omega, by omega, by omega⟩
  have HPk := hid (show POk ⟨0, c, m, []⟩ (dSt.new c) from ⟨Int.le_refl _, by show (1 : Int) ≤ c; omega, by show (0 : Int) + c ≤ c; omega, by show (c : Int) ≤ 4096; omega, by show (1 : Int) ≤ m; omega, by show (m : Int) ≤ 256; omega⟩)
  have HD := hid (dnew_ok11 (c : Int) 0 (by omega))
  have HG := hid (good_new 0 c m (by omega))
  have HO := hid (fun (w1 : World) (dp hb : Nat) (hd : IsDisk w1 w.heap.size dp hb (.slice none 0 0) (dSt.new c)) => show Calls Tryz.prog 11 #[Ptr dp, .int .i64 0, .int .i64 (c : Int), .int .i64 (m : Int)] w1 (POpn w1 dp ⟨0, c, m, []⟩) from bopen_ok (OD := fun k => k = dp ∨ k = hb) (k := 0) ⟨hb, _, hd.mono (Nat.zero_le _), .inl rfl, .inr rfl, fun k hk => by cases hk⟩ HD.out (by show (c : Int) ≤ 4096; omega) 0 c m hok)
  have HOr := hid (fun (w1 : World) (OR : Nat → Prop) (r : Nat) (hd : IsRO w1 OR r (dSt.new c)) => show Calls Tryz.prog 12 #[Ptr r, .int .i64 0, .int .i64 (c : Int), .int .i64 (m : Int)] w1 (PROpn w1 r ⟨0, c, m, []⟩) from ropen11_ok hd (by show (0 : Int) < c; omega) (by show (c : Int) ≤ 4096; omega) 0 c m hok)
  have hf1 : F.putE ⟨0, c, m, []⟩ ((0 : Nat) : Int) (G.pg 0 (G.first c 0)) = 0 ∧ F.putS ⟨0, c, m, []⟩ ((0 : Nat) : Int) (G.pg 0 (G.first c 0)) = S0 c m := G.put0 hc hm (by rw [G.len_first]; exact G.cells_le c 0)
  have hf2 := G.format1 (c := c) (mo := m) hc hc2 hm
  have HFr := hid (fun (w2 : World) (p d q r : Nat) (h : PwE w w2 [] p d q r ⟨0, c, m, []⟩ ⟨0, c, m, []⟩ (dSt.new c) (dSt.new c) 0 0) => show Calls Tryz.prog 14 #[Ptr q] w2 (PPw w [] p d q r ⟨0, c, m, []⟩ (S0 c m) (dSt.new c) (dSt.new c) 0 0 (.int .i64 0)) by
    have q := rformatZ h HG.out (by show (m : Int) ≤ 256; omega) (nil0 _ _ _) rfl hc hc2
    rw [hf1.1, hf1.2] at q
    exact q)
  have HFp := hid (fun (w3 : World) (p d q r : Nat) (h : PwE w w3 [] p d q r ⟨0, c, m, []⟩ (S0 c m) (dSt.new c) (dSt.new c) 0 0) => show Calls Tryz.prog 13 #[Ptr p] w3 (fun e w' => ∃ sp, e = .returned (.tuple #[Ptr sp, .int .i64 0]) ∧ Hid (PwE w w' [(sp, SBox p)] p d q r (S0 c m) (S0 c m) (dSt.new c) (dSt.new c) 10 0 ∧ w.heap.size ≤ sp)) by
    obtain ⟨Y, hL, hback⟩ := h.lpx
    have q := sformat_ok hL (by omega) (by rw [hf2])
    rw [hf2] at q
    refine q.mono ?_
    rintro e w' ⟨sp, rfl, H⟩
    refine ⟨sp, rfl, hback w' _ _ _ _ _ H.out.1 (fun x hx => List.mem_cons_of_mem _ (List.mem_append_right _ hx)) _ (fun x hx => ?_), H.out.2.1⟩
    obtain rfl := List.mem_singleton.1 hx
    exact ⟨List.mem_cons_self, fun y hy => H.out.2.2 y (List.mem_append_right _ hy)⟩)
  have HT := hid hT
  have hc9 : (c : Int) ≤ 1920 := by omega
  have hc1 : (1 : Int) ≤ c := by omega
  have hm9 : (m : Int) ≤ 256 := by omega
  clear hT hok hf1 hf2
  unfold Ptr at *
  go_enter Tryz.func19, Tryz.ntmps19
  go_wp2_with (first
    | (go_at_call 9; refine HN.out.mono ?_; rintro e w1 ⟨d, hb, rfl, hp, hhb, hd, hA1⟩; have H1 := hid (And.intro hp (And.intro hhb (And.intro hd hA1))); clear hp hhb hd hA1)
    | (go_at_call 10; refine (HR.out w1).mono ?_; rintro e w2 hR2
       obtain ⟨r, he, H2⟩ := ref_lost (show PRLose w1 w1.heap.size (dSt.new c) e w2 from hR2)
       subst he
       clear hR2
       have HPd := hid (pd_new0 H1.out.1 H1.out.2.1 H1.out.2.2.1 H1.out.2.2.2 H2.out))
    | (go_at_call 11; refine (HO.out w2 d hb (by obtain ⟨OR, _, _, hA2⟩ := H2.out; exact H1.out.2.2.1.adds hA2)).mono ?_; rintro e w3 ⟨p, rfl, H3⟩)
    | (go_at_call 12; obtain ⟨OD, OR, hpd⟩ := HPd.out; have HPD := hid hpd; clear hpd; refine (HOr.out w3 OR r (HPD.out.ro.adds H3.out.2)).mono ?_; rintro e w4 ⟨q, rfl, H4⟩
       have HW := hid (HPD.out.pools H3.out H4.out HD.out HT.out HG.out HPk.out))
    | (go_at_call 14; refine (HFr.out w4 p d q r HW.out).mono ?_; rintro e w5 ⟨rfl, H5⟩)
    | (go_at_call 13; refine (HFp.out w5 p d q r H5.out).mono ?_; rintro e w6 ⟨sp, rfl, H6⟩))
  go_ret2
  exact ⟨sp, p, d, q, r, rfl, H6.out⟩
end Go.Proofs.YtjlennpoaefllaaGreatDoor

/- A space over a pool with a frame for each page: what its pages hold, by number. -/
namespace Go.Proofs.YtjlennpoaefllaaGreatDoor
open Go.RowKit
namespace K

theorem fewK : ∀ (n : Nat) (l : List Int), l.Nodup → (∀ x ∈ l, 0 ≤ x ∧ x < (n : Int)) → l.length ≤ n
  | 0, l, _, h => by
    cases l with
    | nil => exact Nat.le_refl _
    | cons x l => have := h x List.mem_cons_self; omega
  | n + 1, l, hn, h => by
    by_cases hm : (n : Int) ∈ l
    · have hp := List.perm_cons_erase hm
      have hl := hp.length_eq
      have hn2 := hp.nodup_iff.1 hn
      have h3 := List.nodup_cons.1 hn2
      have := fewK n (l.erase (n : Int)) h3.2 (fun x hx => by
        have h1 := h x (hp.mem_iff.2 (List.mem_cons_of_mem _ hx))
        have h2 : x ≠ (n : Int) := fun e => h3.1 (by have q := hx; rw [e] at q; exact q)
        omega)
      rw [hl, List.length_cons]
      omega
    · have := fewK n l hn (fun x hx => by
        have h1 := h x hx
        have h2 : x ≠ (n : Int) := fun e => hm (by have q := hx; rw [e] at q; exact q)
        omega)
      omega
set_option maxRecDepth 100000 in
theorem at_heldK {s : F.Po} {no k : Int} {f : F.Fr} (hn : F.need s no = false) (hf : f.no = no) : F.at? (F.held s no f).L k = if k = no then some f else F.at? s.L k := by
  have ho : F.out s no = s.L := by unfold F.out; rw [hn]; rfl
  show F.at? (F.sansF (F.out s no) no ++ [f]) k = _
  rw [ho]
  unfold F.at? F.sansF
  rw [List.find?_append]
  by_cases hk : k = no
  · rw [if_pos hk]
    have : (s.L.filter fun g => decide (g.no ≠ no)).find? (fun g => decide (g.no = k)) = none := by
      rw [List.find?_eq_none]
      intro g hg
      have := (List.mem_filter.1 hg).2
      simp at this
      simp [hk, this]
    rw [this]
    simp [hf, hk]
  · rw [if_neg hk]
    have h1 : (s.L.filter fun g => decide (g.no ≠ no)).find? (fun g => decide (g.no = k)) = s.L.find? (fun g => decide (g.no = k)) := by
      rw [List.find?_filter]
      congr 1
      funext g
      by_cases e : g.no = k
      · have : g.no ≠ no := fun e2 => hk (by rw [← e, e2])
        simp [e, hk]
      · simp [e]
    rw [h1]
    cases s.L.find? (fun g => decide (g.no = k)) with
    | some g => rfl
    | none => simp [hf]; exact fun e => hk e.symm
/-- A pool with a frame for each of its c pages. -/
structure Wd (c : Nat) (s : F.Po) : Prop where
  ct : s.ct = (c : Int)
  mo : (c : Int) ≤ s.mo
  good : F.Good s
/-- What a page holds. -/
def H (s : F.Po) (no : Int) : Option (List UInt8) := (F.at? s.L no).map (·.now)
section
variable {c : Nat} {s : F.Po}
set_option maxRecDepth 100000 in
theorem Wd.need (h : Wd c s) {no : Int} (hno : 0 ≤ no ∧ no < (c : Int)) : F.need s no = false := by
  cases ha : F.at? s.L no with
  | some f => exact (need_at ha).1
  | none =>
    unfold F.need
    rw [ha]
    have hmo := h.mo
    have hlt : (s.L.map (·.no) ++ [no]).length ≤ c := by
      refine fewK c _ ?_ (fun x hx => ?_)
      · rw [List.nodup_append]
        refine ⟨h.good.nd, by simp, fun x hx z hz e => ?_⟩
        obtain ⟨f, hf, rfl⟩ := List.mem_map.1 hx
        have hz' : z = no := by simpa using hz
        have := List.find?_eq_none.1 ha f hf
        simp [e, hz'] at this
      · rcases List.mem_append.1 hx with hx | hx
        · obtain ⟨f, hf, rfl⟩ := List.mem_map.1 hx
          have := h.good.nos f hf
          rw [h.ct] at this
          exact this
        · rw [List.mem_singleton.1 hx]; exact hno
    rw [List.length_append, List.length_map, List.length_singleton] at hlt
    simp
    omega
set_option maxRecDepth 100000 in
theorem Wd.inPool (h : Wd c s) {no : Int} (hno : 0 ≤ no ∧ no < (c : Int)) : F.inPool s no = true := by
  unfold F.inPool
  rw [h.ct]
  simp
  exact hno
set_option maxRecDepth 100000 in
theorem Wd.get (h : Wd c s) {no : Int} {bs : List UInt8} (hno : 0 ≤ no ∧ no < (c : Int)) (hH : H s no = some bs) (D : dSt) : F.getE s D no = 0 ∧ F.getB s D no = bs ∧ Wd c (F.getS s D no) ∧ ∀ k, H (F.getS s D no) k = H s k := by
  unfold H at hH
  cases ha : F.at? s.L no with
  | none => rw [ha] at hH; cases hH
  | some f =>
    rw [ha] at hH
    have e1 : F.getE s D no = 0 := by unfold F.getE; rw [h.inPool hno, ha]; rfl
    have e2 : F.getF s D no = f := by unfold F.getF; rw [ha]
    have hn := F.at_mem ha
    refine ⟨e1, by unfold F.getB; rw [if_pos e1, e2]; exact Option.some.inj hH, ⟨by rw [(F.get_same s D no).2.1]; exact h.ct, by rw [(F.get_same s D no).2.2]; exact h.mo, h.good.get D no⟩, fun k => ?_⟩
    unfold F.getS H
    rw [if_pos e1, e2, at_heldK (h.need hno) hn.2]
    by_cases hk : k = no
    · rw [if_pos hk, hk, ha]
    · rw [if_neg hk]
set_option maxRecDepth 100000 in
theorem Wd.put (h : Wd c s) {no : Nat} (hno : no < c) {P : M.Pg} (hP : P.Ok) (hn : P.no = no) : F.putE s (no : Int) (M.pbytes P) = 0 ∧ Wd c (F.putS s (no : Int) (M.pbytes P)) ∧ ∀ k, H (F.putS s (no : Int) (M.pbytes P)) k = if k = (no : Int) then some (M.pbytes P) else H s k := by
  have hr := M.read_pbytes hP
  have hnn : 0 ≤ (no : Int) ∧ (no : Int) < (c : Int) := by omega
  have e1 : F.putE s (no : Int) (M.pbytes P) = 0 := by
    unfold F.putE F.room
    rw [h.inPool hnn, hr, h.need hnn]
    show (if (P.no : Int) ≠ (no : Int) then 23 else if (!false || _) = true then 0 else 33) = 0
    rw [if_neg (by rw [hn]; simp)]
    rfl
  have e2 : F.nw (M.pbytes P) = M.pbytes P := by unfold F.nw; rw [hr]
  have hs := F.put_same s (no : Int) (M.pbytes P)
  refine ⟨e1, ⟨by rw [hs.2.1]; exact h.ct, by rw [hs.2.2]; exact h.mo, h.good.put _ _⟩, fun k => ?_⟩
  unfold F.putS H
  rw [if_pos e1, e2, at_heldK (h.need hnn) rfl]
  by_cases hk : k = (no : Int)
  · rw [if_pos hk, if_pos hk]; rfl
  · rw [if_neg hk, if_neg hk]
end
/-- A space over such a pool: the pages that are taken by a function. -/
structure Sp (c : Nat) (f : Nat → Bool) (s : F.Po) : Prop where
  wd : Wd c s
  c1 : 1 ≤ c
  c2 : c ≤ 1920
  f0 : f 0 = true
  map : ∃ x, G.CellOf c x f ∧ H s 0 = some (G.pg 0 x)
section
variable {c : Nat} {f : Nat → Bool} {s : F.Po}
set_option maxRecDepth 100000 in
theorem Sp.cnt (h : Sp c f s) : G.cnt s = c := by unfold G.cnt; rw [h.wd.ct]; omega
set_option maxRecDepth 100000 in
theorem Sp.maps (h : Sp c f s) : G.maps (G.cnt s) = 1 := by rw [h.cnt]; exact G.maps1 h.c1 h.c2
set_option maxRecDepth 100000 in
theorem Sp.mapE (h : Sp c f s) (D : dSt) : G.mapE s D 0 = 0 ∧ G.CellOf c (G.mapB s D 0) f ∧ H s 0 = some (G.pg 0 (G.mapB s D 0)) ∧ Sp c f (F.getS s D ((0 : Nat) : Int)) ∧ ∀ k, H (F.getS s D ((0 : Nat) : Int)) k = H s k := by
  obtain ⟨x, hx, hH⟩ := h.map
  obtain ⟨g1, g2, g3, g4⟩ := h.wd.get (no := ((0 : Nat) : Int)) (by have := h.c1; omega) hH D
  have hl : x.length ≤ 240 := by rw [hx.1]; exact G.cells_le c 0
  have hg : G.gm (G.cnt s) 0 (F.getB s D ((0 : Nat) : Int)) = some x := by rw [h.cnt, g2, G.gm_pg (by decide) hl, if_pos (hx.may h.c1 h.c2 h.f0)]
  have e2 : G.mapB s D 0 = x := by unfold G.mapB; rw [if_pos g1, hg]; rfl
  refine ⟨by unfold G.mapE; rw [if_pos g1, hg]; rfl, by rw [e2]; exact hx, by rw [e2]; exact hH, ⟨g3, h.c1, h.c2, h.f0, x, hx, by rw [g4]; exact hH⟩, g4⟩
set_option maxRecDepth 100000 in
/-- The map is put anew. -/
theorem Sp.putMap (h : Sp c f s) {y : List UInt8} {f' : Nat → Bool} (hy : G.CellOf c y f') (h0 : f' 0 = true) : F.putE s ((0 : Nat) : Int) (G.pg 0 y) = 0 ∧ Sp c f' (F.putS s ((0 : Nat) : Int) (G.pg 0 y)) ∧ ∀ k, k ≠ 0 → H (F.putS s ((0 : Nat) : Int) (G.pg 0 y)) k = H s k := by
  have hl : y.length ≤ 240 := by rw [hy.1]; exact G.cells_le c 0
  obtain ⟨p1, p2, p3⟩ := h.wd.put (no := 0) h.c1 (P := G.pgP 0 y) (G.pg_ok (by decide) hl) rfl
  exact ⟨p1, ⟨p2, h.c1, h.c2, h0, y, hy, by have q := p3 ((0 : Nat) : Int); rw [if_pos rfl] at q; exact q⟩, fun k hk => by have q := p3 k; rw [if_neg (show ¬ k = ((0 : Nat) : Int) from hk)] at q; exact q⟩
set_option maxRecDepth 100000 in
theorem Sp.alloc (h : Sp c f s) {i : Nat} (hi : i < c) (hf : f i = false) (hlt : ∀ j, j < i → f j = true) (D : dSt) : ∃ s', G.allocG D (G.maps (G.cnt s)) 0 s = ((i : Int), 0, s') ∧ Sp c (fun j => if j = i then true else f j) s' ∧ ∀ k, k ≠ 0 → H s' k = H s k := by
  obtain ⟨m1, m2, _, m4, m5⟩ := h.mapE D
  have hl := m2.some h.c2 hi hf hlt
  have hfl := m2.flip h.c2 hi
  have hf' : G.CellOf c (G.flip (G.mapB s D 0) i) (fun j => if j = i then true else f j) := ⟨hfl.1, fun j => by
    rw [hfl.2 j]
    by_cases e : j = i
    · subst e; simp [hf]
    · simp [e]⟩
  have hi0 : i ≠ 0 := fun e => by rw [e, h.f0] at hf; cases hf
  obtain ⟨p1, p2, p3⟩ := m4.putMap hf' (by rw [if_neg (fun e => hi0 e.symm)]; exact h.f0)
  refine ⟨_, ?_, p2, fun k hk => by rw [p3 k hk, m5]⟩
  rw [h.maps, alloc_ok (r := 0) (k := 0) m1 (by rw [h.cnt]; exact hl) p1]
  simp
set_option maxRecDepth 100000 in
theorem Sp.full (h : Sp c f s) (hall : ∀ j, j < c → f j = true) (D : dSt) : ∃ s', G.allocG D (G.maps (G.cnt s)) 0 s = (0, 30, s') := by
  obtain ⟨m1, m2, _, m4, m5⟩ := h.mapE D
  exact ⟨F.getS s D ((0 : Nat) : Int), by rw [h.maps, alloc_next (r := 0) (k := 0) m1 (by rw [h.cnt]; exact m2.none hall)]; rfl⟩
set_option maxRecDepth 100000 in
theorem Sp.free (h : Sp c f s) {m : Nat} (hm : 1 ≤ m) (hm2 : m < c) (hf : f m = true) (D : dSt) : ∃ s', G.freeG D s (m : Int) = (0, s') ∧ Sp c (fun j => if j = m then false else f j) s' ∧ ∀ k, k ≠ 0 → H s' k = H s k := by
  obtain ⟨m1, m2, _, m4, m5⟩ := h.mapE D
  have hfl := m2.flip h.c2 hm2
  have hf' : G.CellOf c (G.flip (G.mapB s D 0) m) (fun j => if j = m then false else f j) := ⟨hfl.1, fun j => by
    rw [hfl.2 j]
    by_cases e : j = m
    · subst e; simp [hf]
    · simp [e]⟩
  obtain ⟨p1, p2, p3⟩ := m4.putMap hf' (by rw [if_neg (by omega)]; exact h.f0)
  have hb : G.bit (G.mapB s D 0) m = true := by rw [m2.2 m, hf]; simp [hm2]
  refine ⟨_, ?_, p2, fun k hk => by rw [p3 k hk, m5]⟩
  have := h.c2
  unfold G.freeG
  rw [if_neg (by rw [h.maps, h.wd.ct]; omega), Int.toNat_natCast, show m / 1920 = 0 by omega, show m % 1920 = m by omega, if_pos m1, if_pos hb, p1]
set_option maxRecDepth 100000 in
theorem Sp.taken (h : Sp c f s) (D : dSt) : ∃ s', G.takenG D (G.maps (G.cnt s)) 0 s [] = (G.nums c f, 0, s') ∧ Sp c f s' ∧ ∀ k, H s' k = H s k := by
  obtain ⟨m1, m2, _, m4, m5⟩ := h.mapE D
  exact ⟨F.getS s D ((0 : Nat) : Int), by rw [h.maps, tk_next (r := 0) (k := 0) m1, m2.taken h.c2]; rfl, m4, m5⟩
end
/-- How many are taken. -/
def cntT (c : Nat) (f : Nat → Bool) : Nat := ((List.range c).filter f).length
set_option maxRecDepth 100000 in
theorem nums_cnt (c : Nat) (f : Nat → Bool) : (G.nums c f).length = cntT c f := by unfold G.nums cntT; rw [List.length_map]
set_option maxRecDepth 100000 in
theorem cnt_snoc (c : Nat) (f : Nat → Bool) : cntT (c + 1) f = cntT c f + if f c then 1 else 0 := by
  unfold cntT
  rw [List.range_succ, List.filter_append, List.length_append]
  cases h : f c <;> simp [h]
set_option maxRecDepth 100000 in
theorem cnt_congr {c : Nat} {f g : Nat → Bool} (h : ∀ j, j < c → f j = g j) : cntT c f = cntT c g := by
  unfold cntT
  rw [List.filter_congr (fun i hi => h i (List.mem_range.1 hi))]
set_option maxRecDepth 100000 in
theorem cnt_set {i : Nat} {f : Nat → Bool} (hf : f i = false) : ∀ c, cntT c (fun j => if j = i then true else f j) = cntT c f + if i < c then 1 else 0
  | 0 => rfl
  | c + 1 => by
    rw [cnt_snoc, cnt_snoc, cnt_set hf c]
    by_cases e : c = i
    · subst e; simp [hf]
    · by_cases q : i < c
      · have : i < c + 1 := by omega
        simp [e, q, this]
        omega
      · have : ¬ i < c + 1 := by omega
        simp [e, q, this]
set_option maxRecDepth 100000 in
theorem cnt_unset {i : Nat} {f : Nat → Bool} (hf : f i = true) : ∀ c, cntT c (fun j => if j = i then false else f j) + (if i < c then 1 else 0) = cntT c f
  | 0 => rfl
  | c + 1 => by
    have ih := cnt_unset hf c
    rw [cnt_snoc, cnt_snoc, ← ih]
    by_cases e : c = i
    · subst e; simp [hf]
    · by_cases q : i < c
      · have : i < c + 1 := by omega
        simp [e, q, this]
        omega
      · have : ¬ i < c + 1 := by omega
        simp [e, q, this]
theorem cnt_le (f : Nat → Bool) : ∀ c, cntT c f ≤ c
  | 0 => Nat.le_refl _
  | c + 1 => by rw [cnt_snoc]; have := cnt_le f c; split <;> omega
/-- The least that is left. -/
theorem least_left (f : Nat → Bool) : ∀ c, (∃ i, i < c ∧ f i = false ∧ (∀ j, j < i → f j = true)) ∨ ((∀ j, j < c → f j = true) ∧ cntT c f = c)
  | 0 => .inr ⟨fun j hj => by omega, rfl⟩
  | c + 1 => by
    rcases least_left f c with ⟨i, h1, h2, h3⟩ | ⟨h1, h2⟩
    · exact .inl ⟨i, by omega, h2, h3⟩
    · cases hc : f c with
      | false => exact .inl ⟨c, by omega, hc, h1⟩
      | true => exact .inr ⟨fun j hj => by
          rcases Nat.lt_or_eq_of_le (Nat.le_of_lt_succ hj) with q | q
          · exact h1 j q
          · rw [q]; exact hc, by rw [cnt_snoc, h2, hc]; rfl⟩
end K
end Go.Proofs.YtjlennpoaefllaaGreatDoor

/- So many pages are taken. -/
namespace Go.Proofs.YtjlennpoaefllaaGreatDoor
open Go.RowKit

/-- What alloc leaves. -/
def PXa (w0 : World) (X : List (Nat × Obj)) (p dp : Nat) (D : dSt) (n kk : Nat) (R : List Int × Nat × F.Po) (e : Ending) (w' : World) : Prop := ∃ v Y, e = .returned (.tuple #[v, .int .i64 (R.2.1 : Int)]) ∧ Hid (LpX w0 w' Y p dp R.2.2 D n kk ∧ (∀ x ∈ X, x ∈ Y) ∧ AgX Y v R.1)
set_option maxRecDepth 100000 in
theorem allocN_ok {D : dSt} {r : Nat} {s : F.Po} {l : List Int} (h : (G.allocG D (G.maps (G.cnt s)) 0 s).2.1 = 0) : K.allocN D (r + 1) s l = K.allocN D r (G.allocG D (G.maps (G.cnt s)) 0 s).2.2 (l ++ [(G.allocG D (G.maps (G.cnt s)) 0 s).1]) := by conv => lhs; unfold K.allocN; rw [if_pos h]
set_option maxRecDepth 100000 in
theorem allocN_no {D : dSt} {r : Nat} {s : F.Po} {l : List Int} (h : ¬ (G.allocG D (G.maps (G.cnt s)) 0 s).2.1 = 0) : K.allocN D (r + 1) s l = ([], (G.allocG D (G.maps (G.cnt s)) 0 s).2.1, (G.allocG D (G.maps (G.cnt s)) 0 s).2.2) := by unfold K.allocN; rw [if_neg h]
set_option maxRecDepth 100000 in
theorem make_ints (n : Nat) (h : n ≤ 1000) (w : World) : (Instr.makeSlice 64 (.int .i64 0) (.int .i64 (n : Int))).run Tryz.prog w = .ok (.slice (some ⟨w.heap.size, 0, none⟩) 0 n) (w.alloc (.cells (madeCells #[.int .i64 0] n) 3)) := by
  obtain ⟨i0, hi, hz0, hz1, hz2⟩ := info3
  have q := run_make (P := Tryz.prog) w 64 3 i0 (.int .i64 0) Tryz.underlying64 hi hz0 .i64 .i64 0 n (by omega) (by omega) (by rw [hz2]; omega) (by omega)
  rw [q, hz1, Nat.mul_one]
  rfl
set_option maxRecDepth 100000 in
set_option maxHeartbeats 4000000 in
theorem xalloc_any {w0 w : World} {X : List (Nat × Obj)} {p dp : Nat} {s : F.Po} {D : dSt} {n kk sp : Nat} (h : LpX w0 w X p dp s D n kk) (hX : (sp, SBox p) ∈ X) (m : Nat) (hm : m ≤ 100) (hn : n + 10 * m ≤ 1000000) (hk9 : kk ≤ 900) :
    Calls Tryz.prog 67 #[Ptr sp, .int .i64 (m : Int)] w (PXa w0 X p dp D (n + 10 * m) kk (K.allocN D m s [])) := by
  obtain ⟨R, hR⟩ : ∃ R, R = K.allocN D m s [] := ⟨_, rfl⟩
  rw [← hR]
  have hmk := make_ints m (by omega)
  have hNs : Ns w0 (w.alloc (.cells (madeCells #[.int .i64 0] m) 3)) X p dp s D n kk (.slice (some ⟨w.heap.size, 0, none⟩) 0 m) [] := by
    have hA : Adds w (w.alloc (.cells (madeCells #[.int .i64 0] m) 3)) := (Touch.refl _ w).alloc _
    refine ⟨(h.more hA w.heap.size _ (heap_alloc_new w _) (Nat.le_refl _)).fewer (fun y hy => ?_), World.ownsRow_made (base := w0.heap.size) (e := 3) (size := 1) w (madeCells #[.int .i64 0] m) m h.e.adds.size (by unfold maxLen; omega) (by rw [size_madeCells, Nat.mul_one]), fun x hx e => ?_⟩
    · rcases List.mem_append.1 hy with hy | hy
      · obtain ⟨e1, e2⟩ := mem_rowBk.1 hy
        obtain e3 : w.heap.size = y.1 := by simpa [Value.ownBlock] using e1
        rw [← e3, heap_alloc_new w _] at e2
        rw [show y = (w.heap.size, Obj.cells (madeCells #[.int .i64 0] m) 3 (0, 0)) from Prod.ext e3.symm (Option.some.inj e2).symm]
        exact List.mem_cons_self
      · exact List.mem_cons_of_mem _ hy
    · have := (Array.getElem?_eq_some_iff.1 (h.at x hx)).1
      obtain e3 : w.heap.size = x.1 := by simpa [Value.ownBlock] using e
      omega
  have H0 := hid (And.intro hNs (And.intro hR (And.intro hn (And.intro hk9 hX))))
  obtain ⟨wA, hwA⟩ : ∃ wA, wA = w.alloc (.cells (madeCells #[.int .i64 0] m) 3) := ⟨_, rfl⟩
  obtain ⟨v0, hv0⟩ : ∃ v0 : Value, v0 = .slice (some ⟨w.heap.size, 0, none⟩) 0 m := ⟨_, rfl⟩
  rw [← hwA, ← hv0] at H0
  clear h hR hn hk9 hX hNs
  go_enter Tryz.func67, Tryz.ntmps67
  go_upto_region 2 with fail
  rw [← hwA, ← hv0]
  clear hwA hv0 hmk
  go_wp2_with fail
  go_loopw [6, 12] (fun v iv wr => ∃ (j : Nat) (s' : F.Po) (l : List Int), iv = .int .i64 (j : Int) ∧ j ≤ m ∧ l.length = j ∧ Hid (Ns w0 wr X p dp s' D (n + 10 * j) kk v l ∧ K.allocN D (m - j) s' l = R)) (fun _ iv _ => m - (intOf iv).toNat)
  case atStart => exact ⟨0, s, [], rfl, Nat.zero_le _, rfl, H0.out.1, H0.out.2.1.symm⟩
  case round =>
    obtain ⟨j, s', l, rfl, hj, hl, HI⟩ := hrel
    by_cases hlt : j < m
    · have hltz : (j : Int) < (m : Int) := by omega
      have HR := HI.out.2
      rw [show m - j = (m - (j + 1)) + 1 by omega] at HR
      have HA := salloc_any HI.out.1.lpx (List.mem_append_right _ H0.out.2.2.2.2) (by have := H0.out.2.2.1; omega) H0.out.2.2.2.1
      unfold PAl at HA
      obtain ⟨Q, hQ⟩ : ∃ Q, Q = G.allocG D (G.maps (G.cnt s')) 0 s' := ⟨_, rfl⟩
      rw [← hQ] at HA
      by_cases hz : Q.2.1 = 0
      · rw [allocN_ok (by rw [← hQ]; exact hz), ← hQ] at HR
        rw [hz] at HA
        have HA := hid HA
        have HR := hid HR
        have HL := hid hl
        generalize Q.1 = zn at *
        generalize Q.2.2 = sn at *
        clear hz hQ hl
        go_wp2_with (first
          | (go_at_call 31; refine HA.out.mono ?_; rintro e w1 ⟨rfl, H1⟩; have HN1 := hid (HI.out.1.next H1.out); clear H1
             have HN2 := hid (HN1.out.adds (show Adds w1 (w1.alloc (.cells #[.int .i64 zn] 3)) from (Touch.refl _ w1).alloc _)))
          | (at_builtin; refine append_ki rfl _ _ rfl w0.heap.size _ l.length (I l) rfl HN2.out.row w1.heap.size zn rfl (cellOf (heap_alloc_new w1 _) 0) (by rw [HL.out]; omega) HN2.out.x.e.adds.size ?_; intro v' w3 hr3 hT3 ho3; have H3 := hid (HN2.out.snoc rfl hr3 hT3 ho3); clear hr3 hT3 ho3))
        go_roundw
        case rel => exact ⟨j + 1, sn, l ++ [zn], by go_num, by omega, by rw [List.length_append, HL.out]; rfl, H3.out.le (by omega), HR.out⟩
        case measure => simp [intOf]; omega
      · rw [allocN_no (by rw [← hQ]; exact hz), ← hQ] at HR
        have HA := hid HA
        have HR := hid HR
        have hz1 : ((Q.2.1 : Int) != 0) = true := by simp; omega
        have hz2 : ¬ (Q.2.1 : Int) = 0 := by omega
        generalize Q.2.1 = ze at *
        generalize Q.1 = zn at *
        generalize Q.2.2 = sn at *
        clear hz hQ hl
        go_wp2_with (go_at_call 31; refine HA.out.mono ?_; rintro e w1 ⟨rfl, H1⟩)
        go_ret2
        refine ⟨_, X, by rw [← HR.out]; rfl, ?_, fun x hx => hx, by rw [← HR.out]; exact AgX.nil X⟩
        rw [← HR.out]
        exact (H1.out.fewer (fun y hy => List.mem_append_right _ hy)).le (by omega)
    · obtain rfl : j = m := by omega
      have HR := hid HI.out.2
      rw [Nat.sub_self] at HR
      have hltz : ¬ (j : Int) < (j : Int) := by omega
      go_wp2_with fail
      go_ret2
      refine ⟨_, _, by rw [← HR.out]; rfl, ?_, fun x hx => List.mem_append_right _ hx, by rw [← HR.out]; exact HI.out.1.ag⟩
      rw [← HR.out]
      exact HI.out.1.lpx
end Go.Proofs.YtjlennpoaefllaaGreatDoor

/- A blob's pages are put. -/
namespace Go.Proofs.YtjlennpoaefllaaGreatDoor
open Go.RowKit

theorem fill_kpg {k : Nat} {x : List UInt8} (hk : k < 100000) (hx : x.length ≤ 242) : M.fillP (k : Int) 4 [x] = K.pg k x ∧ M.fillE (k : Int) 4 [x] = 0 := M.fill_ok (p := K.pgP k x) (K.pg_ok (by omega) hx)
set_option maxRecDepth 100000 in
theorem run_cut (g len cap l h : Nat) (h1 : l ≤ h) (h2 : h ≤ cap) : ∃ o', (∀ w, (Instr.sliceAt 43 (.slice (some ⟨g, 0, none⟩) len cap) (some (.int .i64 (l : Int))) (some (.int .i64 (h : Int))) none).run Tryz.prog w = .ok (.slice (some ⟨g, o', none⟩) (h - l) (cap - l)) w) ∧ (l < h → o' = l) := by
  by_cases h3 : l < cap
  · exact ⟨l, fun w => by have q := run_mid_at g 0 len cap l h h1 h2 h3 w; rw [Nat.zero_add] at q; exact q, fun _ => rfl⟩
  · refine ⟨0, fun w => ?_, fun c => by omega⟩
    have hsz : (sizeOf 5).run Tryz.prog w = .ok 1 w := by kernel_rfl
    rw [run_sliceAt_slice w 43 _ _ _ _ Tryz.underlying43, run_slice_lh w 43 _ len cap Tryz.underlying43 .i64 .i64 l h (by omega) (by omega) (by omega)]
    have he : Tryz.prog.elem 43 = 5 := by kernel_rfl
    rw [he, hsz]
    simp only [Result.andThen, sliced, Int.toNat_natCast, Nat.mul_one]
    rw [if_pos (by omega)]
set_option maxRecDepth 100000 in
/-- Bytes joined: where they lie. -/
theorem concat_kk {w : World} (a1 a2 : Option Addr) (x y : List UInt8) (c1 c2 n1 n2 : Nat) (e1 : x.length = n1) (e2 : y.length = n2) (h1 : At w a1 x) (h2 : At w a2 y) (q1 : a1 = none → c1 = 0) (q2 : a2 = none → c2 = 0) (hl : n1 + n2 ≤ 10000) :
    Calls Tryz.prog 108 #[.slice (some ⟨w.heap.size, 0, none⟩) 2 2] (w.alloc (.cells #[.slice a1 n1 c1, .slice a2 n2 c2] 43)) fun e w' => ∃ a c, e = .returned (.slice a (n1 + n2) c) ∧ Hid (At w' a (x ++ y) ∧ (a = none → c = 0) ∧ Adds w w') := by
  subst e1
  subst e2
  refine (concat_two ⟨a1, x, c1⟩ ⟨a2, y, c2⟩ h1 h2 q1 q2 (by show x.length + y.length ≤ _; omega)).mono ?_
  rintro e w' ⟨v, rfl, h3, h4⟩
  obtain ⟨a, c, rfl, hc⟩ := Own.lies h3
  exact ⟨a, c, by rw [List.length_append], hc.at_, hc.non, h4⟩
set_option maxRecDepth 100000 in
theorem putN_ok {l : List Int} {b : List UInt8} {r i : Nat} {s : F.Po} (h : F.putE s (l.getD i 0) (K.pgAt l b i) = 0) : K.putN l b (r + 1) i s = K.putN l b r (i + 1) (F.putS s (l.getD i 0) (K.pgAt l b i)) := by conv => lhs; unfold K.putN; rw [if_pos h]
set_option maxRecDepth 100000 in
theorem putN_no {l : List Int} {b : List UInt8} {r i : Nat} {s : F.Po} (h : ¬ F.putE s (l.getD i 0) (K.pgAt l b i) = 0) : K.putN l b (r + 1) i s = (F.putE s (l.getD i 0) (K.pgAt l b i), F.putS s (l.getD i 0) (K.pgAt l b i)) := by unfold K.putN; rw [if_neg h]
set_option maxRecDepth 100000 in
theorem nxt_ok {l : List Int} {B : Int} (h : ∀ z ∈ l, 0 ≤ z ∧ z < B) (hB : 0 < B) (i : Nat) : 0 ≤ K.nxt l i ∧ K.nxt l i < B := by
  unfold K.nxt
  rw [List.getD_eq_getElem?_getD]
  cases hq : l[i + 1]? with
  | none => exact ⟨Int.le_refl _, hB⟩
  | some z => exact h z (List.mem_of_getElem? hq)
set_option maxRecDepth 100000 in
/-- A number of four bytes is put behind bytes. -/
theorem pf4 (a : Option Addr) (cap : Nat) (bs : List UInt8) (m n : Nat) (w : World) (hm : bs.length = m) (hm2 : m ≤ 1000) (hc : a = none → cap = 0) (hA : At w a bs) : Calls Tryz.prog 105 #[.slice a m cap, .int .u64 (n : Int), .int .i64 4] w fun e w' => ∃ a' c', e = .returned (.slice a' (m + 4) c') ∧ Hid (At w' a' (bs ++ M.fix n 4) ∧ (a' = none → c' = 0) ∧ Adds w w') := by
  subst hm
  refine (putFixed_any a bs cap n 4 w (by omega) hc hA).mono ?_
  rintro e w' ⟨v, rfl, h3, h4⟩
  obtain ⟨a', c', rfl, hc⟩ := Own.lies h3
  exact ⟨a', c', by rw [List.length_append, M.len_fix]; rfl, hc.at_, hc.non, h4⟩
/-- Bytes in a block that is nobody's. -/
structure Bx (X : List (Nat × Obj)) (g : Nat) (b : List UInt8) : Prop where
  at_ : ∃ cs fr, (g, Obj.cells cs 5 fr) ∈ X ∧ ∀ (i : Nat) (c : UInt8), b[i]? = some c → cs[i]? = some (Value.int .u8 (c.toNat : Int))
set_option maxRecDepth 100000 in
theorem Bx.get {w0 w : World} {X : List (Nat × Obj)} {p dp : Nat} {s : F.Po} {D : dSt} {n k g : Nat} {b : List UInt8} (h : Bx X g b) (hx : LpX w0 w X p dp s D n k) : At w (some ⟨g, 0, none⟩) b := by
  obtain ⟨cs, fr, hm, hc⟩ := h.at_
  exact fun j c hj => ⟨g, 0, rfl, by rw [cellOf (hx.at _ hm), Nat.zero_add]; exact hc j c hj⟩
set_option maxRecDepth 100000 in
theorem Bx.more {X Y : List (Nat × Obj)} {g : Nat} {b : List UInt8} (h : Bx X g b) (hY : ∀ x ∈ X, x ∈ Y) : Bx Y g b := by
  obtain ⟨cs, fr, hm, hc⟩ := h.at_
  exact ⟨cs, fr, hY _ hm, hc⟩
set_option maxRecDepth 100000 in
theorem AgX.more {X Y : List (Nat × Obj)} {v : Value} {zs : List Int} (h : AgX X v zs) (hY : ∀ x ∈ X, x ∈ Y) : AgX Y v zs := by
  obtain ⟨a, cap, e, hg⟩ := h
  exact ⟨a, cap, e, fun i hi => by obtain ⟨b, o, cs, fr, q1, q2, q3⟩ := hg i hi; exact ⟨b, o, cs, fr, q1, hY _ q2, q3⟩⟩
set_option maxRecDepth 100000 in
/-- A page is put: from its cell on. -/
theorem kput_page {w0 wr : World} {X : List (Nat × Obj)} {p dp : Nat} {s' : F.Po} {D : dSt} {n kk z cl : Nat} {c : List UInt8} (h : LpX w0 wr X p dp s' D n kk) (hn : n + 1 ≤ 1000000) (hz : z < 100000) (hc : c.length = cl) (hcl : cl ≤ 242) :
    (∀ (w3 : World) (a : Option Addr) (cap : Nat), At w3 a c → (a = none → cap = 0) → Calls Tryz.prog 78 #[.int .i64 (z : Int), .int .u8 4, .slice (some ⟨w3.heap.size, 0, none⟩) 1 1] (w3.alloc (.cells #[.slice a cl cap] 43)) (fun e w' => ∃ pa pc, e = .returned (.tuple #[.slice pa 256 pc, .int .i64 0]) ∧ Hid (At w' pa (K.pg z c) ∧ 256 ≤ pc ∧ Adds w3 w'))) ∧
    (∀ (w4 : World) (pa : Option Addr) (pc : Nat), Adds wr w4 → At w4 pa (K.pg z c) → 256 ≤ pc → Calls Tryz.prog 53 #[Ptr p, .int .i64 (z : Int), .slice pa 256 pc] w4 (fun e w' => e = .returned (.int .i64 (F.putE s' (z : Int) (K.pg z c) : Int)) ∧ Hid (LpX w0 w' X p dp (F.putS s' (z : Int) (K.pg z c)) D (n + 1) kk))) := by
  have hpl : (K.pg z c).length = 256 := K.pg_len (by omega)
  refine ⟨fun w3 a cap hA hcp => ?_, fun w4 pa pc hA hAt hpc => lx_put (h.add hA) hn (z : Int) pa (K.pg z c) 256 pc hpl hpc hAt⟩
  have HF := gfill_any (z : Int) 4 (some ⟨w3.heap.size, 0, none⟩) [⟨a, c, cap⟩] 1 1 rfl _ (one_cell w3 a c cl cap hc hcp hA) (fun y hy => by obtain rfl := List.mem_singleton.1 hy; show c.length ≤ _; omega) (by omega)
  obtain ⟨f1, f2⟩ := fill_kpg (k := z) (x := c) hz (by omega)
  have hfl1 : M.fillP (z : Int) 4 (([⟨a, c, cap⟩] : List Part).map (·.bs)) = K.pg z c := f1
  have hfl2 : M.fillE (z : Int) 4 (([⟨a, c, cap⟩] : List Part).map (·.bs)) = 0 := f2
  rw [hfl1, hfl2] at HF
  refine HF.mono ?_
  rintro e w' ⟨pa, pc, he, H⟩
  rw [hpl] at he
  exact ⟨pa, pc, he, H.out.1, by have := H.out.2.1; omega, ((Touch.refl _ w3).alloc _).trans H.out.2.2.2⟩
set_option maxRecDepth 100000 in
set_option maxHeartbeats 2000000 in
theorem xputp_any {w0 w : World} {X : List (Nat × Obj)} {p dp : Nat} {s : F.Po} {D : dSt} {n kk : Nat} (h : LpX w0 w X p dp s D n kk) (l : List Int) (v : Value) (hv : AgX X v l) (hl : l.length ≤ 20) (hno : ∀ z ∈ l, 0 ≤ z ∧ z < 100000) (g : Nat) (b : List UInt8) (bn cap : Nat) (hB : Bx X g b) (hbn : b.length = bn) (hbl : bn ≤ 4000) (hcap : bn ≤ cap) (hn : n + 20 ≤ 1000000) :
    Calls Tryz.prog 68 #[Ptr p, v, .slice (some ⟨g, 0, none⟩) bn cap] w (fun e w' => e = .returned (.int .i64 ((K.putN l b l.length 0 s).1 : Int)) ∧ Hid (LpX w0 w' X p dp (K.putN l b l.length 0 s).2 D (n + 20) kk)) := by
  obtain ⟨R, hR⟩ : ∃ R, R = K.putN l b l.length 0 s := ⟨_, rfl⟩
  rw [← hR]
  obtain ⟨a, ac, rfl, _⟩ := id hv
  obtain ⟨ln, hln⟩ : ∃ ln, ln = l.length := ⟨_, rfl⟩
  rw [← hln] at hR hl hv ⊢
  have H0 := hid (And.intro h (And.intro hR (And.intro hv (And.intro hno (And.intro hB (And.intro hln hn))))))
  clear h hR hv hno hB hln hn
  have hbz : (bn : Int) ≤ 4000 := by omega
  unfold Ptr at *
  go_enter Tryz.func68, Tryz.ntmps68
  go_wp2_with fail
  go_loopw [16] (fun iv wr => ∃ (j : Nat) (s' : F.Po), iv = .int .i64 (j : Int) ∧ j ≤ ln ∧ Hid (LpX w0 wr X p dp s' D (n + j) kk ∧ K.putN l b (ln - j) j s' = R)) (fun iv _ => ln - (intOf iv).toNat)
  case atStart => exact ⟨0, s, rfl, Nat.zero_le _, H0.out.1, H0.out.2.1.symm⟩
  case round =>
    obtain ⟨j, s', rfl, hj, HI⟩ := hrel
    by_cases hlt : j < ln
    · have hltz : (j : Int) < (ln : Int) := by omega
      have HR := HI.out.2
      rw [show ln - j = (ln - (j + 1)) + 1 by omega] at HR
      have hjl : j < l.length := by have := H0.out.2.2.2.2.2.1; omega
      obtain ⟨z, hz⟩ : ∃ z : Nat, l[j] = (z : Int) := ⟨l[j].toNat, by have := (H0.out.2.2.2.1 _ (List.getElem_mem hjl)).1; omega⟩
      have hz9 : z < 100000 := by have := (H0.out.2.2.2.1 _ (List.getElem_mem hjl)).2; omega
      have hgd : l.getD j 0 = (z : Int) := by rw [List.getD_eq_getElem?_getD, List.getElem?_eq_getElem hjl, hz]; rfl
      obtain ⟨nx, hnx⟩ : ∃ nx : Nat, K.nxt l j = (nx : Int) := ⟨(K.nxt l j).toNat, by have := (nxt_ok H0.out.2.2.2.1 (by decide) j).1; omega⟩
      have hnx9 : (nx : Int) < 100000 := by rw [← hnx]; exact (nxt_ok H0.out.2.2.2.1 (by decide) j).2
      obtain ⟨c, hc⟩ : ∃ c, c = K.cell l b j := ⟨_, rfl⟩
      have hpg : K.pgAt l b j = K.pg z c := by unfold K.pgAt; rw [hgd, hc]; rfl
      have hc2 : c = K.hd nx bn j ++ K.share b j := by rw [hc]; unfold K.cell; rw [hnx, hbn]; rfl
      have hcl := K.len_cell l b j
      rw [← hc] at hcl
      obtain ⟨lo, hlo⟩ : ∃ lo, lo = K.inP j bn := ⟨_, rfl⟩
      obtain ⟨hi, hhi⟩ : ∃ hi, hi = K.inP (j + 1) bn := ⟨_, rfl⟩
      have hlh : lo ≤ hi := by rw [hlo, hhi]; exact K.inP_mono _ _
      have hhb : hi ≤ bn := by rw [hhi]; exact K.inP_le _ _
      obtain ⟨sn, hsn⟩ : ∃ sn, sn = hi - lo := ⟨_, rfl⟩
      obtain ⟨cr, hcr⟩ : ∃ cr, cr = cap - lo := ⟨_, rfl⟩
      have hsl : (K.share b j).length = sn := by rw [K.len_share, hbn, ← hlo, ← hhi, hsn]
      obtain ⟨o', hcut, ho'⟩ := run_cut g bn cap lo hi hlh (by omega)
      rw [← hsn, ← hcr] at hcut
      have HSh := hid (fun (w' : World) (hA : Adds wr w') => show At w' (some ⟨g, o', none⟩) (K.share b j) by
        by_cases q : lo < hi
        · rw [ho' q]
          have hb := (H0.out.2.2.2.2.1.get HI.out.1).adds hA
          have := ((hb.pre (K.inP (j + 1) b.length)).suf (K.inP j b.length))
          rw [hbn, ← hlo, ← hhi, Nat.zero_add] at this
          unfold K.share
          rw [hbn, ← hlo, ← hhi]
          exact this
        · have : K.share b j = [] := List.eq_nil_of_length_eq_zero (by rw [hsl]; omega)
          rw [this]
          exact At.nil _ _)
      have HNx := hid (fun w' (hA : Adds wr w') => show Calls Tryz.prog 106 #[.slice a ln ac, .int .i64 (j : Int)] w' (Tells (.int .i64 (nx : Int)) w') by
        rw [← hnx]
        exact xnext_any w' a ac l ln H0.out.2.2.2.2.2.1.symm (by omega) ((H0.out.2.2.1.nat2 HI.out.1).1.adds hA) j hlt)
      have HI1 := hid (fun w' => show Calls Tryz.prog 107 #[.int .i64 (j : Int), .int .i64 (bn : Int)] w' (Tells (.int .i64 (lo : Int)) w') by rw [hlo]; exact xinp_any w' j bn (by omega) (by omega))
      have HI2 := hid (fun w' => show Calls Tryz.prog 107 #[.int .i64 ((j : Int) + 1), .int .i64 (bn : Int)] w' (Tells (.int .i64 (hi : Int)) w') by rw [hhi]; exact xinp_any w' (j + 1) bn (by omega) (by omega))
      obtain ⟨b0, o0, ha0, hc0⟩ := (H0.out.2.2.1.nat2 HI.out.1).1 j hjl
      subst ha0
      rw [hz] at hc0
      by_cases hj0 : j = 0
      · have hjz : ((j : Int) == 0) = true := by simp; omega
        have hjz2 : (j : Int) = 0 := by omega
        have HJ0 := hid hj0
        have hcl2 : c.length = 8 + sn := by rw [hc2, List.length_append, K.len_hd, hsl, if_pos hj0]
        obtain ⟨KF, KP⟩ := kput_page (z := z) (c := c) (cl := 8 + sn) HI.out.1 (by have := H0.out.2.2.2.2.2.2; omega) hz9 hcl2 (by omega)
        have KF := hid KF
        have KP := hid KP
        have HHd := hid (show K.hd nx bn j ++ K.share b j = c from hc2.symm)
        have HSl := hid hsl
        have hs9 : sn ≤ 238 := by omega
        have HP1 := hid (fun w' => pf4 none 0 [] 0 nx w' rfl (by decide) (fun _ => rfl) (At.nil _ _))
        obtain ⟨ze, hze⟩ : ∃ ze, ze = F.putE s' (z : Int) (K.pg z c) := ⟨_, rfl⟩
        obtain ⟨sx, hsx⟩ : ∃ sx, sx = F.putS s' (z : Int) (K.pg z c) := ⟨_, rfl⟩
        rw [← hze, ← hsx] at KP
        by_cases hz0 : ze = 0
        · rw [putN_ok (by rw [hgd, hpg, ← hze]; exact hz0), hgd, hpg, ← hsx] at HR
          have HR := hid HR
          subst hz0
          clear hze hsx hc hpg hc2 hcl hcl2 hlo hhi hsl ho' hgd hnx hz hjl hsn hcr hj0 hjz2
          go_wp2_with (first
            | (go_at_call 106; refine (HNx.out _ (Touch.refl _ _)).mono ?_; rintro e _ ⟨rfl, hw⟩; rw [hw]; clear hw)
            | (go_at_call 105; refine (HP1.out _).mono ?_; clear HP1; rintro e w1 ⟨a1, c1, rfl, H1⟩)
            | (go_at_call 105; refine (pf4 a1 c1 (M.fix nx 4) 4 bn w1 (M.len_fix _ _) (by decide) H1.out.2.1 H1.out.1).mono ?_; rintro e w2 ⟨a2, c2, rfl, h2⟩; have H2 := hid (show At w2 a2 (K.hd nx bn j) ∧ (a2 = none → c2 = 0) ∧ Adds wr w2 from ⟨by unfold K.hd; rw [if_pos HJ0.out]; exact h2.out.1, h2.out.2.1, H1.out.2.2.trans h2.out.2.2⟩); clear h2)
            | (go_at_call 107; refine (HI1.out _).mono ?_; clear HI1; rintro e _ ⟨rfl, hw⟩; rw [hw]; clear hw)
            | (go_at_call 107; refine (HI2.out _).mono ?_; rintro e _ ⟨rfl, hw⟩; rw [hw]; clear hw)
            | (go_at_call 108; refine (concat_kk (w := w2) a2 (some ⟨g, o', none⟩) (K.hd nx bn j) (K.share b j) c2 cr 8 sn (by rw [K.len_hd, if_pos HJ0.out]) HSl.out H2.out.1 (HSh.out w2 H2.out.2.2) H2.out.2.1 (fun e => by cases e) (by omega)).mono ?_; rintro e w3 ⟨a3, c3, rfl, H3⟩; rw [HHd.out] at H3)
            | (go_at_call 78; refine (KF.out w3 a3 c3 H3.out.1 H3.out.2.1).mono ?_; rintro e w4 ⟨pa, pc, rfl, H4⟩)
            | (go_at_call 53; refine (KP.out w4 pa pc (H2.out.2.2.trans (H3.out.2.2.trans H4.out.2.2)) H4.out.1 H4.out.2.1).mono ?_; rintro e w5 ⟨rfl, H5⟩))
          go_roundw
          case rel => exact ⟨j + 1, sx, by go_num, by omega, H5.out, HR.out⟩
          case measure => simp [intOf]; omega
        · rw [putN_no (by rw [hgd, hpg, ← hze]; exact hz0), hgd, hpg, ← hsx, ← hze] at HR
          have HR := hid HR
          have hz1 : ((ze : Int) != 0) = true := by simp; omega
          have hz2 : ¬ (ze : Int) = 0 := by omega
          clear hze hsx hc hpg hc2 hcl hcl2 hlo hhi hsl ho' hgd hnx hz hjl hsn hcr hz0 hj0 hjz2
          go_wp2_with (first
            | (go_at_call 106; refine (HNx.out _ (Touch.refl _ _)).mono ?_; rintro e _ ⟨rfl, hw⟩; rw [hw]; clear hw)
            | (go_at_call 105; refine (HP1.out _).mono ?_; clear HP1; rintro e w1 ⟨a1, c1, rfl, H1⟩)
            | (go_at_call 105; refine (pf4 a1 c1 (M.fix nx 4) 4 bn w1 (M.len_fix _ _) (by decide) H1.out.2.1 H1.out.1).mono ?_; rintro e w2 ⟨a2, c2, rfl, h2⟩; have H2 := hid (show At w2 a2 (K.hd nx bn j) ∧ (a2 = none → c2 = 0) ∧ Adds wr w2 from ⟨by unfold K.hd; rw [if_pos HJ0.out]; exact h2.out.1, h2.out.2.1, H1.out.2.2.trans h2.out.2.2⟩); clear h2)
            | (go_at_call 107; refine (HI1.out _).mono ?_; clear HI1; rintro e _ ⟨rfl, hw⟩; rw [hw]; clear hw)
            | (go_at_call 107; refine (HI2.out _).mono ?_; rintro e _ ⟨rfl, hw⟩; rw [hw]; clear hw)
            | (go_at_call 108; refine (concat_kk (w := w2) a2 (some ⟨g, o', none⟩) (K.hd nx bn j) (K.share b j) c2 cr 8 sn (by rw [K.len_hd, if_pos HJ0.out]) HSl.out H2.out.1 (HSh.out w2 H2.out.2.2) H2.out.2.1 (fun e => by cases e) (by omega)).mono ?_; rintro e w3 ⟨a3, c3, rfl, H3⟩; rw [HHd.out] at H3)
            | (go_at_call 78; refine (KF.out w3 a3 c3 H3.out.1 H3.out.2.1).mono ?_; rintro e w4 ⟨pa, pc, rfl, H4⟩)
            | (go_at_call 53; refine (KP.out w4 pa pc (H2.out.2.2.trans (H3.out.2.2.trans H4.out.2.2)) H4.out.1 H4.out.2.1).mono ?_; rintro e w5 ⟨rfl, H5⟩))
          go_ret
          refine ⟨by rw [← HR.out]; rfl, ?_⟩
          rw [← HR.out]
          exact H5.out.le (by omega)
      · have hjz : ¬ (j : Int) = 0 := by omega
        have HJ0 := hid hj0
        have hjz2 : ((j : Int) == 0) = false := by simpa using hjz
        have hcl2 : c.length = 4 + sn := by rw [hc2, List.length_append, K.len_hd, hsl]; rw [if_neg hj0]
        obtain ⟨KF, KP⟩ := kput_page (z := z) (c := c) (cl := 4 + sn) HI.out.1 (by have := H0.out.2.2.2.2.2.2; omega) hz9 hcl2 (by omega)
        have KF := hid KF
        have KP := hid KP
        have HHd := hid (show K.hd nx bn j ++ K.share b j = c from hc2.symm)
        have HSl := hid hsl
        have hs9 : sn ≤ 238 := by omega
        have HP1 := hid (fun w' => pf4 none 0 [] 0 nx w' rfl (by decide) (fun _ => rfl) (At.nil _ _))
        obtain ⟨ze, hze⟩ : ∃ ze, ze = F.putE s' (z : Int) (K.pg z c) := ⟨_, rfl⟩
        obtain ⟨sx, hsx⟩ : ∃ sx, sx = F.putS s' (z : Int) (K.pg z c) := ⟨_, rfl⟩
        rw [← hze, ← hsx] at KP
        by_cases hz0 : ze = 0
        · rw [putN_ok (by rw [hgd, hpg, ← hze]; exact hz0), hgd, hpg, ← hsx] at HR
          have HR := hid HR
          subst hz0
          clear hze hsx hc hpg hc2 hcl hcl2 hlo hhi hsl ho' hgd hnx hz hjl hsn hcr hj0
          go_wp2_with (first
            | (go_at_call 106; refine (HNx.out _ (Touch.refl _ _)).mono ?_; rintro e _ ⟨rfl, hw⟩; rw [hw]; clear hw)
            | (go_at_call 105; refine (HP1.out _).mono ?_; clear HP1; rintro e w2 ⟨a2, c2, rfl, h2⟩; have H2 := hid (show At w2 a2 (K.hd nx bn j) ∧ (a2 = none → c2 = 0) ∧ Adds wr w2 from ⟨by unfold K.hd; rw [if_neg HJ0.out]; exact h2.out.1, h2.out.2.1, h2.out.2.2⟩); clear h2)
            | (go_at_call 107; refine (HI1.out _).mono ?_; clear HI1; rintro e _ ⟨rfl, hw⟩; rw [hw]; clear hw)
            | (go_at_call 107; refine (HI2.out _).mono ?_; rintro e _ ⟨rfl, hw⟩; rw [hw]; clear hw)
            | (go_at_call 108; refine (concat_kk (w := w2) a2 (some ⟨g, o', none⟩) (K.hd nx bn j) (K.share b j) c2 cr 4 sn (by rw [K.len_hd, if_neg HJ0.out]) HSl.out H2.out.1 (HSh.out w2 H2.out.2.2) H2.out.2.1 (fun e => by cases e) (by omega)).mono ?_; rintro e w3 ⟨a3, c3, rfl, H3⟩; rw [HHd.out] at H3)
            | (go_at_call 78; refine (KF.out w3 a3 c3 H3.out.1 H3.out.2.1).mono ?_; rintro e w4 ⟨pa, pc, rfl, H4⟩)
            | (go_at_call 53; refine (KP.out w4 pa pc (H2.out.2.2.trans (H3.out.2.2.trans H4.out.2.2)) H4.out.1 H4.out.2.1).mono ?_; rintro e w5 ⟨rfl, H5⟩))
          go_roundw
          case rel => exact ⟨j + 1, sx, by go_num, by omega, H5.out, HR.out⟩
          case measure => simp [intOf]; omega
        · rw [putN_no (by rw [hgd, hpg, ← hze]; exact hz0), hgd, hpg, ← hsx, ← hze] at HR
          have HR := hid HR
          have hz1 : ((ze : Int) != 0) = true := by simp; omega
          have hz2 : ¬ (ze : Int) = 0 := by omega
          clear hze hsx hc hpg hc2 hcl hcl2 hlo hhi hsl ho' hgd hnx hz hjl hsn hcr hz0 hj0
          go_wp2_with (first
            | (go_at_call 106; refine (HNx.out _ (Touch.refl _ _)).mono ?_; rintro e _ ⟨rfl, hw⟩; rw [hw]; clear hw)
            | (go_at_call 105; refine (HP1.out _).mono ?_; clear HP1; rintro e w2 ⟨a2, c2, rfl, h2⟩; have H2 := hid (show At w2 a2 (K.hd nx bn j) ∧ (a2 = none → c2 = 0) ∧ Adds wr w2 from ⟨by unfold K.hd; rw [if_neg HJ0.out]; exact h2.out.1, h2.out.2.1, h2.out.2.2⟩); clear h2)
            | (go_at_call 107; refine (HI1.out _).mono ?_; clear HI1; rintro e _ ⟨rfl, hw⟩; rw [hw]; clear hw)
            | (go_at_call 107; refine (HI2.out _).mono ?_; rintro e _ ⟨rfl, hw⟩; rw [hw]; clear hw)
            | (go_at_call 108; refine (concat_kk (w := w2) a2 (some ⟨g, o', none⟩) (K.hd nx bn j) (K.share b j) c2 cr 4 sn (by rw [K.len_hd, if_neg HJ0.out]) HSl.out H2.out.1 (HSh.out w2 H2.out.2.2) H2.out.2.1 (fun e => by cases e) (by omega)).mono ?_; rintro e w3 ⟨a3, c3, rfl, H3⟩; rw [HHd.out] at H3)
            | (go_at_call 78; refine (KF.out w3 a3 c3 H3.out.1 H3.out.2.1).mono ?_; rintro e w4 ⟨pa, pc, rfl, H4⟩)
            | (go_at_call 53; refine (KP.out w4 pa pc (H2.out.2.2.trans (H3.out.2.2.trans H4.out.2.2)) H4.out.1 H4.out.2.1).mono ?_; rintro e w5 ⟨rfl, H5⟩))
          go_ret
          refine ⟨by rw [← HR.out]; rfl, ?_⟩
          rw [← HR.out]
          exact H5.out.le (by omega)
    · obtain rfl : j = ln := by omega
      have HR := hid HI.out.2
      rw [Nat.sub_self] at HR
      have hltz : ¬ (j : Int) < (j : Int) := by omega
      go_wp2_with fail
      go_ret
      refine ⟨by rw [← HR.out]; rfl, ?_⟩
      rw [← HR.out]
      exact HI.out.1.le (by omega)
end Go.Proofs.YtjlennpoaefllaaGreatDoor

/- A blob is put. -/
namespace Go.Proofs.YtjlennpoaefllaaGreatDoor
open Go.RowKit

theorem allocG_bd (D : dSt) : ∀ (r k : Nat) (s : F.Po), k + r ≤ 3 → 0 ≤ (G.allocG D r k s).1 ∧ (G.allocG D r k s).1 < 100000
  | 0, _, _, _ => ⟨Int.le_refl _, by show (0 : Int) < 100000; decide⟩
  | r + 1, k, s, h => by
    by_cases hz : G.mapE s D k = 0
    · cases hl : G.least (G.cnt s) k (G.mapB s D k) with
      | none => rw [alloc_next hz hl]; exact allocG_bd D r (k + 1) _ (by omega)
      | some i =>
        have hi := least_lt hl
        have hm := G.may_len (G.mapB_may hz).2.2.1
        have hc := G.cells_le (G.cnt s) k
        by_cases hp : F.putE (F.getS s D k) k (G.pg k (G.flip (G.mapB s D k) i)) = 0
        · rw [alloc_ok hz hl hp]
          show 0 ≤ ((1920 * k + i : Nat) : Int) ∧ ((1920 * k + i : Nat) : Int) < 100000
          omega
        · rw [alloc_no hz hl hp]; exact ⟨Int.le_refl _, by show (0 : Int) < 100000; decide⟩
    · rw [alloc_bad hz]; exact ⟨Int.le_refl _, by show (0 : Int) < 100000; decide⟩
theorem allocG_ct (D : dSt) : ∀ (r k : Nat) (s : F.Po), G.cnt (G.allocG D r k s).2.2 = G.cnt s
  | 0, _, _ => rfl
  | r + 1, k, s => by
    unfold G.allocG
    split
    · split
      · rw [allocG_ct D r (k + 1) _, G.get_ct]
      · split
        · rw [G.put_ct, G.get_ct]
        · rw [G.put_ct, G.get_ct]
    · exact G.get_ct s D _
set_option maxRecDepth 100000 in
/-- What alloc tells, if it is OK. -/
theorem allocN_is (D : dSt) (r : Nat) : ∀ (s : F.Po) (l : List Int), G.cnt s ≤ 4096 → (K.allocN D r s l).2.1 = 0 → (∀ z ∈ l, 0 ≤ z ∧ z < 100000) → (K.allocN D r s l).1.length = l.length + r ∧ ∀ z ∈ (K.allocN D r s l).1, 0 ≤ z ∧ z < 100000 := by
  induction r with
  | zero => exact fun s l _ _ hl => ⟨rfl, hl⟩
  | succ r ih =>
    intro s l hc h hl
    by_cases hz : (G.allocG D (G.maps (G.cnt s)) 0 s).2.1 = 0
    · rw [allocN_ok hz] at h ⊢
      have hm := G.maps_le hc
      have hb := allocG_bd D (G.maps (G.cnt s)) 0 s (by rw [Nat.zero_add]; exact hm)
      have hcc := allocG_ct D (G.maps (G.cnt s)) 0 s
      generalize G.allocG D (G.maps (G.cnt s)) 0 s = Q at *
      obtain ⟨h1, h2⟩ := ih Q.2.2 (l ++ [Q.1]) (by rw [hcc]; exact hc) h (fun z hz' => by
        rcases List.mem_append.1 hz' with c | c
        · exact hl z c
        · rw [List.mem_singleton.1 c]; exact hb)
      rw [List.length_append, List.length_singleton] at h1
      exact ⟨by rw [h1]; omega, h2⟩
    · rw [allocN_no hz] at h
      exact absurd h hz
def PXp (w0 : World) (X : List (Nat × Obj)) (p dp : Nat) (D : dSt) (n kk : Nat) (R : Int × Nat × F.Po) (e : Ending) (w' : World) : Prop := e = .returned (.tuple #[.int .i64 R.1, .int .i64 (R.2.1 : Int)]) ∧ Hid (LpX w0 w' X p dp R.2.2 D n kk)
set_option maxRecDepth 100000 in
set_option maxHeartbeats 2000000 in
theorem xput_any {w0 w : World} {X : List (Nat × Obj)} {p dp : Nat} {s : F.Po} {D : dSt} {n kk sp : Nat} (h : LpX w0 w X p dp s D n kk) (hX : (sp, SBox p) ∈ X) (g : Nat) (b : List UInt8) (bn cap : Nat) (hB : Bx X g b) (hbn : b.length = bn) (hbl : bn ≤ 1000000) (hcap : bn ≤ cap) (hn : n + 210 ≤ 1000000) (hk9 : kk ≤ 900) :
    Calls Tryz.prog 24 #[Ptr sp, .slice (some ⟨g, 0, none⟩) bn cap] w (PXp w0 X p dp D (n + 210) kk (K.putB D s b)) := by
  have hc := h.pok.cnt
  have HMd := hid (xmade_any (h.spc hX) hc.1 hc.2.1)
  by_cases hbig : 4000 < bn
  · have hbz : (4000 : Int) < (bn : Int) := by omega
    have hR : K.putB D s b = (0, 3, s) := by unfold K.putB; rw [if_pos (by omega)]
    rw [hR]
    have H0 := hid (h.le (show n ≤ n + 210 by omega))
    clear hR h hX hB hbn hbl hcap hn hk9 hc hbig
    go_enter Tryz.func24, Tryz.ntmps24
    go_wp2_with (go_at_call 66; refine HMd.out.mono ?_; rintro e _ ⟨rfl, hw⟩; rw [hw]; clear hw)
    go_ret2
    exact ⟨rfl, H0.out⟩
  · have hbz : ¬ (4000 : Int) < (bn : Int) := by omega
    have hR : K.putB D s b = K.putR b (K.allocN D (K.pages bn) s []) := by unfold K.putB; rw [if_neg (by omega), hbn]
    rw [hR]
    have hpl := K.pages_le (n := bn) (by omega)
    have hpp := K.pages_pos bn
    have HPg := hid (xpages_any w bn (by omega))
    have HA := xalloc_any h hX (K.pages bn) (by omega) (by omega) hk9
    have hais := allocN_is D (K.pages bn) s [] (by omega)
    obtain ⟨Q, hQ⟩ : ∃ Q, Q = K.allocN D (K.pages bn) s [] := ⟨_, rfl⟩
    rw [← hQ] at hais HA ⊢
    obtain ⟨l, z, s2⟩ := Q
    obtain ⟨pn, hpn⟩ : ∃ pn, pn = K.pages bn := ⟨_, rfl⟩
    rw [← hpn] at HPg hais HA hpl hpp
    have HA := hid HA
    by_cases hz : z = 0
    · subst hz
      obtain ⟨hlen, hbd⟩ := hais rfl (fun z hz => by cases hz)
      have hlen : l.length = pn := by rw [hlen]; simp
      have hbd : ∀ z ∈ l, 0 ≤ z ∧ z < 100000 := hbd
      have hR2 : K.putR b (l, 0, s2) = if (K.putN l b pn 0 s2).1 = 0 then (l.getD 0 0, 0, (K.putN l b pn 0 s2).2) else (0, (K.putN l b pn 0 s2).1, (K.putN l b pn 0 s2).2) := by unfold K.putR; rw [if_pos rfl, hbn, ← hpn]
      rw [hR2]
      have HPu := hid (fun (w1 : World) (v : Value) (Y : List (Nat × Obj)) (h1 : LpX w0 w1 Y p dp s2 D (n + 10 * pn) kk) (hXY : ∀ x ∈ X, x ∈ Y) (hv : AgX Y v l) => show Calls Tryz.prog 68 #[Ptr p, v, .slice (some ⟨g, 0, none⟩) bn cap] w1 (fun e w' => e = .returned (.int .i64 ((K.putN l b pn 0 s2).1 : Int)) ∧ Hid (LpX w0 w' Y p dp (K.putN l b pn 0 s2).2 D (n + 10 * pn + 20) kk)) by
        have q := xputp_any h1 l v hv (by omega) hbd g b bn cap (hB.more hXY) hbn (by omega) hcap (by omega)
        rw [hlen] at q
        exact q)
      clear hR2
      generalize (K.putN l b pn 0 s2).1 = ze at *
      generalize (K.putN l b pn 0 s2).2 = sx at *
      obtain ⟨z0, hz0⟩ : ∃ z0, l.getD 0 0 = z0 := ⟨_, rfl⟩
      rw [hz0]
      have hl0 : ∃ h0 : 0 < l.length, l[0] = z0 := ⟨by omega, by rw [← hz0, List.getD_eq_getElem?_getD, List.getElem?_eq_getElem (by omega)]; rfl⟩
      have HL := hid (And.intro hl0 (And.intro hX (show 10 * pn + 20 ≤ 210 by omega)))
      clear hR h hX hB hbl hcap hn hk9 hc hais hlen hbd hpn hQ hl0 hz0 hpl hbn hbig
      have hpp0 : 0 < pn := hpp
      clear hpp
      by_cases hze : ze = 0
      · subst hze
        rw [if_pos rfl]
        go_enter Tryz.func24, Tryz.ntmps24
        go_wp2_with (first
          | (go_at_call 66; refine HMd.out.mono ?_; rintro e _ ⟨rfl, hw⟩; rw [hw]; clear hw)
          | (go_at_call 22; refine HPg.out.mono ?_; rintro e _ ⟨rfl, hw⟩; rw [hw]; clear hw)
          | (go_at_call 67; refine HA.out.mono ?_; rintro e w1 ⟨v, Y, rfl, H1⟩
             have HSp := hid (spool_any (H1.out.1.spc (H1.out.2.1 _ HL.out.2.1)).box))
          | (go_at_call 15; refine HSp.out.mono ?_; rintro e _ ⟨rfl, hw⟩; rw [hw]; clear hw)
          | (go_at_call 68; refine (HPu.out w1 v Y H1.out.1 H1.out.2.1 H1.out.2.2).mono ?_; rintro e w2 ⟨rfl, H2⟩
             obtain ⟨va, vc, hv, hq⟩ := H1.out.2.2.nat H2.out
             obtain ⟨b0, o0, ha, hc0⟩ := hq 0 HL.out.1.1
             rw [HL.out.1.2, Nat.add_zero] at hc0
             subst hv
             subst ha))
        go_ret2
        exact ⟨rfl, (H2.out.fewer H1.out.2.1).le (by have := HL.out.2.2; omega)⟩
      · rw [if_neg hze]
        have hz1 : ((ze : Int) != 0) = true := by simp; omega
        have hz2 : ¬ (ze : Int) = 0 := by omega
        go_enter Tryz.func24, Tryz.ntmps24
        go_wp2_with (first
          | (go_at_call 66; refine HMd.out.mono ?_; rintro e _ ⟨rfl, hw⟩; rw [hw]; clear hw)
          | (go_at_call 22; refine HPg.out.mono ?_; rintro e _ ⟨rfl, hw⟩; rw [hw]; clear hw)
          | (go_at_call 67; refine HA.out.mono ?_; rintro e w1 ⟨v, Y, rfl, H1⟩
             have HSp := hid (spool_any (H1.out.1.spc (H1.out.2.1 _ HL.out.2.1)).box))
          | (go_at_call 15; refine HSp.out.mono ?_; rintro e _ ⟨rfl, hw⟩; rw [hw]; clear hw)
          | (go_at_call 68; refine (HPu.out w1 v Y H1.out.1 H1.out.2.1 H1.out.2.2).mono ?_; rintro e w2 ⟨rfl, H2⟩))
        go_ret2
        exact ⟨rfl, (H2.out.fewer H1.out.2.1).le (by have := HL.out.2.2; omega)⟩
    · have hR2 : K.putR b (l, z, s2) = (0, z, s2) := by unfold K.putR; rw [if_neg hz]
      rw [hR2]
      have hz1 : ((z : Int) != 0) = true := by simp; omega
      have hz2 : ¬ (z : Int) = 0 := by omega
      have HL := hid (show 10 * pn ≤ 210 by omega)
      clear hR hR2 h hX hB hbl hcap hn hk9 hc hais hpn hQ hpl hpp hbn hbig hz
      go_enter Tryz.func24, Tryz.ntmps24
      go_wp2_with (first
        | (go_at_call 66; refine HMd.out.mono ?_; rintro e _ ⟨rfl, hw⟩; rw [hw]; clear hw)
        | (go_at_call 22; refine HPg.out.mono ?_; rintro e _ ⟨rfl, hw⟩; rw [hw]; clear hw)
        | (go_at_call 67; refine HA.out.mono ?_; rintro e w1 ⟨v, Y, rfl, H1⟩; obtain ⟨va, vc, hv, _⟩ := id H1.out.2.2; subst hv))
      go_ret2
      exact ⟨rfl, (H1.out.1.fewer H1.out.2.1).le (by have := HL.out; omega)⟩
end Go.Proofs.YtjlennpoaefllaaGreatDoor

/- Numbers and bytes of one's own, among the blocks that are nobody's. -/
namespace Go.Proofs.YtjlennpoaefllaaGreatDoor
open Go.RowKit

/-- Numbers and bytes of one's own. -/
structure Rd (w0 w : World) (X : List (Nat × Obj)) (p dp : Nat) (s : F.Po) (D : dSt) (n k : Nat) (v : Value) (zs : List Int) (u : Value) (bs : List UInt8) : Prop where
  lpx : LpX w0 w (rowBk w v ++ (rowBk w u ++ X)) p dp s D n k
  rowN : w.ownsRow w0.heap.size 3 1 v zs.length (I zs)
  rowB : w.ownsRow w0.heap.size 5 1 u bs.length (S bs)
  apN : ∀ x ∈ X, v.ownBlock ≠ some x.1
  apB : ∀ x ∈ X, u.ownBlock ≠ some x.1
section
variable {w0 w w' : World} {X : List (Nat × Obj)} {p dp : Nat} {s s' : F.Po} {D : dSt} {n n' k m : Nat} {v v' u u' : Value} {zs : List Int} {bs : List UInt8}
theorem Rd.le (h : Rd w0 w X p dp s D n k v zs u bs) (hn : n ≤ n') : Rd w0 w X p dp s D n' k v zs u bs := ⟨h.lpx.le hn, h.rowN, h.rowB, h.apN, h.apB⟩
theorem Rd.x (h : Rd w0 w X p dp s D n k v zs u bs) : LpX w0 w X p dp s D n k := h.lpx.fewer (fun _ hy => List.mem_append_right _ (List.mem_append_right _ hy))
/-- The two rows lie apart. -/
theorem Rd.two (h : Rd w0 w X p dp s D n k v zs u bs) : (∀ j, v.ownBlock = some j → u.ownBlock ≠ some j) ∧ ∀ j, u.ownBlock = some j → v.ownBlock ≠ some j :=
  ⟨fun _ hj => row_apart h.rowN h.rowB (by decide) hj, fun _ hj => row_apart h.rowB h.rowN (by decide) hj⟩
set_option maxRecDepth 100000 in
theorem Rd.ns (h : Rd w0 w X p dp s D n k v zs u bs) : Ns w0 w (rowBk w u ++ X) p dp s D n k v zs := by
  refine ⟨h.lpx, h.rowN, fun x hx e => ?_⟩
  rcases List.mem_append.1 hx with hx | hx
  · exact h.two.1 _ e (mem_rowBk.1 hx).1
  · exact h.apN x hx e
set_option maxRecDepth 100000 in
/-- Another call has been made. -/
theorem Rd.next (h : Rd w0 w X p dp s D n k v zs u bs) (h' : LpX w0 w' (rowBk w v ++ (rowBk w u ++ X)) p dp s' D n' k) : Rd w0 w' X p dp s' D n' k v zs u bs := by
  have e1 := rowBk_same (X := X) h' h.rowN (fun y hy => List.mem_append_left _ hy) rfl
  have e2 := rowBk_same (X := X) h' h.rowB (fun y hy => List.mem_append_right _ (List.mem_append_left _ hy)) rfl
  exact ⟨by rw [e1, e2]; exact h', row_keepX h.lpx h' h.rowN (row_inX h.rowN (fun y hy => List.mem_append_left _ hy)), row_keepX h.lpx h' h.rowB (row_inX h.rowB (fun y hy => List.mem_append_right _ (List.mem_append_left _ hy))), h.apN, h.apB⟩
theorem Rd.adds (h : Rd w0 w X p dp s D n k v zs u bs) (hA : Adds w w') : Rd w0 w' X p dp s D n k v zs u bs := h.next (h.lpx.add hA)
set_option maxRecDepth 100000 in
/-- A number has come. -/
theorem Rd.num (h : Rd w0 w X p dp s D n k v zs u bs) {z : Int} (hm : m = zs.length) (hr : w'.ownsRow w0.heap.size 3 1 v' (m + 1) (I zs ++ [.int .i64 z])) (hT : Touch (fun j => v.ownBlock = some j) w w') (ho : ∀ j, v'.ownBlock = some j → v.ownBlock = some j ∨ w.heap.size ≤ j) : Rd w0 w' X p dp s D n k v' (zs ++ [z]) u bs := by
  have hN := h.ns.snoc hm hr hT ho
  have e2 := rowBk_same (X := X) hN.lpx h.rowB (fun y hy => List.mem_append_right _ (List.mem_append_left _ hy)) rfl
  exact ⟨by rw [e2]; exact hN.lpx, hN.row, row_touch h.rowB hT (fun j hj c => h.two.2 j hj c), fun x hx => hN.apart x (List.mem_append_right _ hx), h.apB⟩
set_option maxRecDepth 100000 in
/-- Bytes have come. -/
theorem Rd.byt (h : Rd w0 w X p dp s D n k v zs u bs) {cs : List UInt8} {c : Nat} (hm : m = bs.length) (hc : c = cs.length) (hr : w'.ownsRow w0.heap.size 5 1 u' (m + c) (S bs ++ S cs)) (hT : Touch (fun j => u.ownBlock = some j) w w') (ho : ∀ j, u'.ownBlock = some j → u.ownBlock = some j ∨ w.heap.size ≤ j) : Rd w0 w' X p dp s D n k v zs u' (bs ++ cs) := by
  subst hm
  subst hc
  have hr' : w'.ownsRow w0.heap.size 5 1 u' (bs ++ cs).length (S (bs ++ cs)) := by
    rw [List.length_append, show S (bs ++ cs) = S bs ++ S cs by simp [S]]
    exact hr
  have h1 : LpX w0 w (rowBk w u ++ (rowBk w v ++ X)) p dp s D n k := h.lpx.fewer (fun y hy => by
    rcases List.mem_append.1 hy with hy | hy
    · exact List.mem_append_right _ (List.mem_append_left _ hy)
    · rcases List.mem_append.1 hy with hy | hy
      · exact List.mem_append_left _ hy
      · exact List.mem_append_right _ (List.mem_append_right _ hy))
  have hap : ∀ x ∈ rowBk w v ++ X, u.ownBlock ≠ some x.1 := fun x hx e => by
    rcases List.mem_append.1 hx with hx | hx
    · exact h.two.2 _ e (mem_rowBk.1 hx).1
    · exact h.apB x hx e
  have h2 := h1.grow h.rowB hT hr' ho hap
  have hap2 := grow_apart h1 ho hap
  have e1 := rowBk_same (X := X) h2 h.rowN (fun y hy => List.mem_append_right _ (List.mem_append_left _ hy)) rfl
  have hrn : w'.ownsRow w0.heap.size 3 1 v zs.length (I zs) := row_touch h.rowN hT (fun j hj c => h.two.1 j hj c)
  refine ⟨h2.fewer (fun y hy => ?_), hrn, hr', h.apN, fun x hx => hap2 x (List.mem_append_right _ hx)⟩
  rw [e1] at hy
  rcases List.mem_append.1 hy with hy | hy
  · exact List.mem_append_right _ (List.mem_append_left _ hy)
  · rcases List.mem_append.1 hy with hy | hy
    · exact List.mem_append_left _ hy
    · exact List.mem_append_right _ (List.mem_append_right _ hy)
end
/-- Bytes that lie in a block that is nobody's. -/
def BgX (X : List (Nat × Obj)) (v : Value) (bs : List UInt8) : Prop := ∃ a cap, v = .slice a bs.length cap ∧ bs.length ≤ cap ∧ (a = none → cap = 0) ∧ ∀ (i : Nat) (c : UInt8), bs[i]? = some c → ∃ b o cs fr, a = some ⟨b, o, none⟩ ∧ (b, Obj.cells cs 5 fr) ∈ X ∧ cs[o + i]? = some (Value.int .u8 (c.toNat : Int))
theorem BgX.nil (X : List (Nat × Obj)) : BgX X (.slice none 0 0) [] := ⟨none, 0, rfl, Nat.le_refl _, fun _ => rfl, fun i c h => by simp at h⟩
set_option maxRecDepth 100000 in
theorem BgX.get {X : List (Nat × Obj)} {p dp : Nat} {w0 w : World} {s : F.Po} {D : dSt} {n k : Nat} {v : Value} {bs : List UInt8} (h : BgX X v bs) (hx : LpX w0 w X p dp s D n k) : ∃ a cap, v = .slice a bs.length cap ∧ At w a bs ∧ bs.length ≤ cap := by
  obtain ⟨a, cap, e, hc, _, hg⟩ := h
  refine ⟨a, cap, e, fun j c hj => ?_, hc⟩
  obtain ⟨b, o, cs, fr, ea, hm, hcell⟩ := hg j c hj
  exact ⟨b, o, ea, by rw [cellOf (hx.at _ hm)]; exact hcell⟩
set_option maxRecDepth 100000 in
theorem BgX.more {X Y : List (Nat × Obj)} {v : Value} {bs : List UInt8} (h : BgX X v bs) (hY : ∀ x ∈ X, x ∈ Y) : BgX Y v bs := by
  obtain ⟨a, cap, e, hc, hn, hg⟩ := h
  exact ⟨a, cap, e, hc, hn, fun i c hi => by obtain ⟨b, o, cs, fr, q1, q2, q3⟩ := hg i c hi; exact ⟨b, o, cs, fr, q1, hY _ q2, q3⟩⟩
set_option maxRecDepth 100000 in
theorem Rd.bg {w0 w : World} {X : List (Nat × Obj)} {p dp : Nat} {s : F.Po} {D : dSt} {n k : Nat} {v u : Value} {zs : List Int} {bs : List UInt8} (h : Rd w0 w X p dp s D n k v zs u bs) : BgX (rowBk w v ++ (rowBk w u ++ X)) u bs := by
  rcases h.rowB.2 with ⟨e, h0⟩ | ⟨g, cap, cur, e, hb, hg, h1, h2, h3, h4⟩
  · rw [e, List.eq_nil_of_length_eq_zero h0]; exact BgX.nil _
  · refine ⟨_, cap, e, h1, fun c => (by cases c), fun i c hi => ⟨g, 0, cur, (0, 0), rfl, List.mem_append_right _ (List.mem_append_left _ (mem_rowBk.2 ⟨by rw [e]; rfl, hg⟩)), ?_⟩⟩
    rw [Nat.zero_add, ← Array.getElem?_toList]
    have h5 : (S bs)[i]? = some (Value.int .u8 (c.toNat : Int)) := by rw [S_get, hi]; rfl
    rw [← h4, List.getElem?_take] at h5
    split at h5
    · exact h5
    · cases h5
theorem Rd.ag {w0 w : World} {X : List (Nat × Obj)} {p dp : Nat} {s : F.Po} {D : dSt} {n k : Nat} {v u : Value} {zs : List Int} {bs : List UInt8} (h : Rd w0 w X p dp s D n k v zs u bs) : AgX (rowBk w v ++ (rowBk w u ++ X)) v zs := h.ns.ag
end Go.Proofs.YtjlennpoaefllaaGreatDoor
