/- Texts put together: FWorks, FWorks2. -/
import Derived.Test.YtjbdchgadfhffaaGreatDoorQ42
/- The chapter's example. -/
namespace Go.Proofs.YtjbdchgadfhffaaGreatDoor
open Go.RowKit

/-- Numbers that lie somewhere. -/
def NAt (w : World) (a : Option Addr) (zs : List Int) : Prop := ∀ i (hi : i < zs.length), ∃ b o, a = some ⟨b, o, none⟩ ∧ w.cell? ⟨b, o + i, none⟩ = some (.int .i64 zs[i])
theorem NAt.adds {w w' : World} {a : Option Addr} {zs : List Int} (h : NAt w a zs) (hA : Adds w w') : NAt w' a zs := fun i hi => by
  obtain ⟨b, o, e, hc⟩ := h i hi
  exact ⟨b, o, e, below_adds hA hc⟩
set_option maxRecDepth 100000 in
theorem row_nat {w : World} {B : Nat} {v : Value} {zs : List Int} (h : w.ownsRow B 3 1 v zs.length (I zs)) : ∃ a cap, v = .slice a zs.length cap ∧ NAt w a zs := by
  obtain ⟨a, cap, e, hg⟩ := row_get h
  exact ⟨a, cap, e, fun i hi => by obtain ⟨b, o, e1, _, hc⟩ := hg i hi; exact ⟨b, o, e1, hc⟩⟩
set_option maxRecDepth 100000 in
set_option maxHeartbeats 1000000 in
theorem ints_same (zs : List Int) (n : Nat) (hn : zs.length = n) (hl : n ≤ 10000) (a1 a2 : Option Addr) (k1 k2 : Nat) (w : World) (h1 : NAt w a1 zs) (h2 : NAt w a2 zs) : Calls Tryz.prog 18 #[.slice a1 n k1, .slice a2 n k2] w (Adding (.bool true) w) := by
  have H := hid (And.intro h1 h2)
  have HN := hid hn
  clear h1 h2 hn
  go_enter Tryz.func18, Tryz.ntmps18
  go_wp2_with fail
  go_loopw [5] (fun iv wr => ∃ i : Nat, iv = .int .i64 (i : Int) ∧ i ≤ n ∧ Hid (Adds w wr)) (fun iv _ => n - (intOf iv).toNat)
  case atStart => exact ⟨0, rfl, Nat.zero_le _, Touch.refl _ _⟩
  case round =>
    obtain ⟨i, rfl, hi, HI⟩ := hrel
    by_cases hlt : i < n
    · have hltz : (i : Int) < (n : Int) := by omega
      obtain ⟨b1, o1, e1, c1⟩ := (H.out.1.adds HI.out) i (by rw [HN.out]; exact hlt)
      obtain ⟨b2, o2, e2, c2⟩ := (H.out.2.adds HI.out) i (by rw [HN.out]; exact hlt)
      subst e1
      subst e2
      generalize zs[i]'(by rw [HN.out]; exact hlt) = z at c1 c2
      have hz : (z != z) = false := by simp
      go_upto_region 6 with fail
      go_quiet (fail)
      go_wp2
      go_roundw
      case rel => exact ⟨i + 1, by go_num, by omega, HI.out.trans (adds_drewN _ _)⟩
      case measure => simp [intOf]; omega
    · have hltz : ¬ (i : Int) < (n : Int) := by omega
      go_wp2_with fail
      go_ret
      exact ⟨rfl, HI.out⟩
/-- What opened tells. -/
def POpd (w : World) (mo : Int) (e : Ending) (w' : World) : Prop := ∃ p dp, e = .returned (.tuple #[Ptr dp, Ptr p]) ∧ Hid (LpE w w' p dp ⟨0, 6, mo, []⟩ (dSt.new 6) 0 0)
theorem dnew_ok (n : Int) (k : Nat) (h : 0 < n) : DOk (dSt.new n) k := ⟨Nat.zero_le _, Int.le_refl _, by show (0 : Int) ≤ k; omega, Int.le_refl _, by show (-1 : Int) ≤ _; decide, h⟩
set_option maxRecDepth 100000 in
theorem lp_new {w w1 w2 : World} {dp hb p : Nat} {fr ct mo : Int} {D : dSt} {k : Nat} (hT : Tab w) (hA : Adds w w1) (hd : IsDisk w1 0 dp hb (.slice none 0 0) D) (h1 : w.heap.size ≤ dp) (h2 : w.heap.size ≤ hb) (hk : DOk D k) (hp : IsPool w2 (fun k => w1.heap.size ≤ k ∧ k < w2.heap.size) p dp ⟨fr, ct, mo, []⟩ 0) (hA2 : Adds w1 w2) (hpk : POk ⟨fr, ct, mo, []⟩ D) : LpE w w2 p dp ⟨fr, ct, mo, []⟩ D 0 k := by
  have z1 := hA.size
  have z2 := hA2.size
  have l1 := (Array.getElem?_eq_some_iff.1 hd.box).1
  obtain ⟨es, cl, l2, _⟩ := hd.held
  have l2 := (Array.getElem?_eq_some_iff.1 l2).1
  refine ⟨_, fun k => k = dp ∨ k = hb, hp, ⟨hb, _, hd.adds hA2, .inl rfl, .inr rfl, fun k hk => by cases hk⟩, hk, fun j c c' => ?_, fun j c => ?_, fun j c => ?_, hA.trans hA2, hT, ⟨fun f hf => (by cases hf), fun f hf => (by cases hf), fun f hf => (by cases hf), ?_, List.nodup_nil⟩, hpk⟩
  · rcases c' with rfl | rfl <;> omega
  · rcases c with c | rfl | rfl <;> omega
  · rcases c with c | rfl | rfl <;> omega
  · have := hpk.mo1
    show (0 : Int) ≤ mo
    have : (1 : Int) ≤ mo := this
    omega
set_option maxRecDepth 100000 in
set_option maxHeartbeats 2000000 in
theorem opened_any (mo : Int) (hm : 1 ≤ mo ∧ mo ≤ 256) (w : World) (hT : Tab w) : Calls Tryz.prog 11 #[.int .i64 mo] w (POpd w mo) := by
  have HN := hid (new_yes 6 w w.heap.size (Nat.le_refl _) (by omega) (by omega))
  have hok : F.openOk (dSt.new 6) 0 6 mo = true := by
    exact decide_eq_true ⟨by decide, by decide, by decide, by show (0 : Int) + 6 ≤ 6; decide, hm.1, hm.2⟩
  have HO := hid (fun (w1 : World) (dp hb : Nat) (hd : IsDisk w1 0 dp hb (.slice none 0 0) (dSt.new 6)) => show Calls Tryz.prog 20 #[Ptr dp, .int .i64 0, .int .i64 6, .int .i64 mo] w1 (POpn w1 dp ⟨0, 6, mo, []⟩) from bopen_ok (OD := fun k => k = dp ∨ k = hb) (k := 0) ⟨hb, _, hd, .inl rfl, .inr rfl, fun k hk => by cases hk⟩ (dnew_ok 6 0 (by decide)) (by show (6 : Int) ≤ 4096; decide) 0 6 mo hok)
  have HPk := hid (show POk ⟨0, 6, mo, []⟩ (dSt.new 6) from ⟨Int.le_refl _, by show (1 : Int) ≤ 6; decide, by show (0 : Int) + 6 ≤ 6; decide, by show (6 : Int) ≤ 4096; decide, hm.1, hm.2⟩)
  have HT := hid hT
  clear hT hok hm
  go_enter Tryz.func11, Tryz.ntmps11
  go_wp2_with (first
    | (go_at_call 4; refine HN.out.mono ?_; rintro e w1 ⟨dp, hb, rfl, hp, hhb, hd, hA1⟩; have H1 := hid (And.intro hp (And.intro hhb (And.intro (hd.mono (Nat.zero_le _)) hA1))); clear hd hA1 hp hhb)
    | (go_at_call 20; refine (HO.out w1 dp hb H1.out.2.2.1).mono ?_; rintro e w2 ⟨p, rfl, H2⟩))
  go_ret2
  exact ⟨p, dp, rfl, lp_new HT.out H1.out.2.2.2 H1.out.2.2.1 H1.out.1 H1.out.2.1 (dnew_ok 6 0 (by decide)) H2.out.1 H2.out.2 HPk.out⟩
/-! ### The states of the example -/
set_option maxRecDepth 100000 in
theorem pl_nw {no : Nat} (h : no < 2147483648) (c : UInt8) : F.nw (pl no c) = pl no c := by
  unfold F.nw
  rw [pl_read h c]
  rfl
set_option maxRecDepth 100000 in
theorem put_pl {s : F.Po} {no : Nat} (hno : no < 2147483648) (c : UInt8) (h1 : F.inPool s no = true) (h2 : F.room s no = true) : F.putE s no (pl no c) = 0 ∧ F.putS s no (pl no c) = F.held s no ⟨no, pl no c, F.wasB s no, true, F.wasD s no⟩ := by
  have e : F.putE s no (pl no c) = 0 := by
    unfold F.putE
    rw [h1, pl_read hno]
    simp [h2]
  exact ⟨e, by unfold F.putS; rw [if_pos e, pl_nw hno c]⟩
def wS0 : F.Po := ⟨0, 6, 2, []⟩
def wS1 : F.Po := ⟨0, 6, 2, [⟨0, pl 0 1, [], true, false⟩]⟩
def wS2 : F.Po := ⟨0, 6, 2, [⟨0, pl 0 1, [], true, false⟩, ⟨1, pl 1 1, [], true, false⟩]⟩
def wS3 : F.Po := ⟨0, 6, 2, [⟨0, pl 0 1, [], false, true⟩, ⟨1, pl 1 1, [], false, true⟩]⟩
def wS4 : F.Po := ⟨0, 6, 2, [⟨0, pl 0 1, [], false, false⟩, ⟨1, pl 1 1, [], false, false⟩]⟩
def wS5 : F.Po := ⟨0, 6, 2, [⟨1, pl 1 1, [], false, false⟩, ⟨2, pl 2 5, [], true, false⟩]⟩
def wD0 : dSt := dSt.new 6
def wD3 : dSt := ((wD0.wrote 0 (M.sealP (pl 0 1))).wrote 1 (M.sealP (pl 1 1))).synced
set_option maxRecDepth 100000 in
theorem ws1 : F.putE wS0 0 (pl 0 1) = 0 ∧ F.putS wS0 0 (pl 0 1) = wS1 := by
  obtain ⟨h1, h2⟩ := put_pl (s := wS0) (no := 0) (by decide) 1 rfl rfl
  exact ⟨h1, h2.trans rfl⟩
set_option maxRecDepth 100000 in
theorem ws2 : F.putE wS1 1 (pl 1 1) = 0 ∧ F.putS wS1 1 (pl 1 1) = wS2 := by
  obtain ⟨h1, h2⟩ := put_pl (s := wS1) (no := 1) (by decide) 1 rfl rfl
  exact ⟨h1, h2.trans rfl⟩
theorem wsg : F.getE wS2 wD0 2 = 33 ∧ F.getS wS2 wD0 2 = wS2 ∧ F.getB wS2 wD0 2 = [] := ⟨rfl, rfl, rfl⟩
theorem rise_nil : rise [] = [] := rise_eq (List.Perm.refl _) List.Pairwise.nil
theorem rise_two {a b : Int} (h : a ≤ b) : rise [a, b] = [a, b] := rise_eq (List.Perm.refl _) (by simp [h])
theorem ws3 : F.accS wS2 = wS3 ∧ (F.which wS2 F.isFresh).length = 2 := ⟨rfl, by rw [show F.which wS2 F.isFresh = rise [0, 1] from rfl, length_rise]; rfl⟩
theorem wsd : F.which wS3 F.isDirty = [0, 1] ∧ F.which wS3 F.isFresh = [] := ⟨(show F.which wS3 F.isDirty = rise [0, 1] from rfl).trans (rise_two (by decide)), (show F.which wS3 F.isFresh = rise [] from rfl).trans rise_nil⟩
set_option maxRecDepth 100000 in
theorem ws4 : F.flX wS3 wD0 = (0, wD3) ∧ F.flS wS3 wD0 = wS4 ∧ wD3.steps = 3 := by
  have h1 : F.flX wS3 wD0 = (0, wD3) := by
    unfold F.flX
    rw [wsd.2, if_pos rfl, wsd.1, if_neg (by simp)]
    rfl
  exact ⟨h1, by unfold F.flS; rw [h1]; rfl, rfl⟩
set_option maxRecDepth 100000 in
theorem ws5 : F.putE wS4 2 (pl 2 5) = 0 ∧ F.putS wS4 2 (pl 2 5) = wS5 := by
  obtain ⟨h1, h2⟩ := put_pl (s := wS4) (no := 2) (by decide) 5 rfl rfl
  exact ⟨h1, h2.trans rfl⟩
theorem wsh : F.which wS5 F.isHeld = [1, 2] := (show F.which wS5 F.isHeld = rise [1, 2] from rfl).trans (rise_two (by decide))
theorem wsf : F.getE wS5 wD3 2 = 0 ∧ F.getB wS5 wD3 2 = pl 2 5 := ⟨rfl, rfl⟩
end Go.Proofs.YtjbdchgadfhffaaGreatDoor

/- The chapter's example: the walk. -/
namespace Go.Proofs.YtjbdchgadfhffaaGreatDoor
open Go.RowKit

/-- The pages of the example. -/
def Pls (z y : Int) (bs : List UInt8) : Prop := (z = 0 ∧ y = 1 ∧ bs = pl 0 1) ∨ (z = 1 ∧ y = 1 ∧ bs = pl 1 1) ∨ (z = 2 ∧ y = 5 ∧ bs = pl 2 5)
set_option maxRecDepth 100000 in
theorem plain_r {z y : Int} {bs : List UInt8} (h : Pls z y bs) (w : World) : Calls Tryz.prog 13 #[.int .i64 z, .int .u8 y] w (PPl w bs) := by
  rcases h with ⟨rfl, rfl, rfl⟩ | ⟨rfl, rfl, rfl⟩ | ⟨rfl, rfl, rfl⟩
  · exact plain_any 0 1 w (by decide)
  · exact plain_any 1 1 w (by decide)
  · exact plain_any 2 5 w (by decide)
set_option maxRecDepth 100000 in
theorem nat_two (w : World) (x y : Int) : NAt (w.alloc (.cells #[.int .i64 x, .int .i64 y] 3)) (some ⟨w.heap.size, 0, none⟩) [x, y] := by
  intro i hi
  refine ⟨_, _, rfl, ?_⟩
  rw [cellOf (heap_alloc_new w _)]
  match i, hi with
  | 0, _ => rfl
  | 1, _ => rfl
set_option maxRecDepth 100000 in
set_option maxHeartbeats 8000000 in
theorem works11 (w : World) (hT : Tab w) : Calls Tryz.prog 6 #[] w (Adding (.bool true) w) := by
  have HO := hid (show Calls Tryz.prog 11 #[.int .i64 2] w (POpd w 2) from opened_any 2 (by decide) w hT)
  have HIn := hid (fun (w' : World) (a : Option Addr) (k1 : Nat) (hq : NAt w' a [1, 2]) (b : Nat) (hb : NAt w' (some ⟨b, 0, none⟩) [1, 2]) => show Calls Tryz.prog 18 #[.slice a 2 k1, .slice (some ⟨b, 0, none⟩) 2 2] w' (Adding (.bool true) w') from ints_same [1, 2] 2 rfl (by decide) a (some ⟨b, 0, none⟩) k1 2 w' hq hb)
  unfold Ptr at *
  clear hT
  go_enter Tryz.func6, Tryz.ntmps6
  go_upto_region 2 with (go_at_call 11; refine HO.out.mono ?_; rintro e w1 ⟨p, dp, rfl, HL⟩)
  unfold Ptr at *
  have HP1 := hid (fun (w' : World) (h : LpE w w' p dp wS0 wD0 0 0) (a : Option Addr) (k : Nat) (h1 : At w' a (pl 0 1)) (h2 : 256 ≤ k) (h3 : (pl 0 1).length = 256) => show Calls Tryz.prog 12 #[.pointer (some ⟨p, 0, none⟩), .int .i64 0, .slice a 256 k] w' (PLp w p dp wS1 wD0 1 0 (.int .i64 0)) by
    have q := lq_put h (by decide) 0 a (pl 0 1) 256 k h3 h2 h1
    rw [ws1.1, ws1.2] at q
    exact q)
  have HP2 := hid (fun (w' : World) (h : LpE w w' p dp wS1 wD0 1 0) (a : Option Addr) (k : Nat) (h1 : At w' a (pl 1 1)) (h2 : 256 ≤ k) (h3 : (pl 1 1).length = 256) => show Calls Tryz.prog 12 #[.pointer (some ⟨p, 0, none⟩), .int .i64 1, .slice a 256 k] w' (PLp w p dp wS2 wD0 2 0 (.int .i64 0)) by
    have q := lq_put h (by decide) 1 a (pl 1 1) 256 k h3 h2 h1
    rw [ws2.1, ws2.2] at q
    exact q)
  have HG2 := hid (fun (w' : World) (h : LpE w w' p dp wS2 wD0 2 0) => show Calls Tryz.prog 14 #[.pointer (some ⟨p, 0, none⟩), .int .i64 2] w' (PLg w w' p dp wS2 wD0 3 0 33 []) by
    have q := lq_get h (by decide) (by decide) 2
    rw [wsg.1, wsg.2.1, wsg.2.2] at q
    exact q)
  have HA3 := hid (fun (w' : World) (h : LpE w w' p dp wS2 wD0 3 0) => show Calls Tryz.prog 15 #[.pointer (some ⟨p, 0, none⟩)] w' (PLp w p dp wS3 wD0 3 0 (.int .i64 2)) by
    have q := lp_accept h h.good.acc
    rw [ws3.1, ws3.2] at q
    exact q)
  have HF4 := hid (fun (w' : World) (h : LpE w w' p dp wS3 wD0 3 0) => show Calls Tryz.prog 16 #[.pointer (some ⟨p, 0, none⟩)] w' (PLp w p dp wS4 wD3 3 3 (.int .i64 0)) by
    have q := lq_flush h (by rw [wsd.1]; decide)
    rw [ws4.1, ws4.2.1, wsd.1] at q
    exact q)
  have HS4 := hid (fun (w' : World) (h : LpE w w' p dp wS4 wD3 3 3) => show Calls Tryz.prog 17 #[.pointer (some ⟨dp, 0, none⟩)] w' (Tells (.int .i64 3) w') by
    have q := lp_steps h
    rw [ws4.2.2] at q
    exact q)
  have HP5 := hid (fun (w' : World) (h : LpE w w' p dp wS4 wD3 3 3) (a : Option Addr) (k : Nat) (h1 : At w' a (pl 2 5)) (h2 : 256 ≤ k) (h3 : (pl 2 5).length = 256) => show Calls Tryz.prog 12 #[.pointer (some ⟨p, 0, none⟩), .int .i64 2, .slice a 256 k] w' (PLp w p dp wS5 wD3 4 3 (.int .i64 0)) by
    have q := lq_put h (by decide) 2 a (pl 2 5) 256 k h3 h2 h1
    rw [ws5.1, ws5.2] at q
    exact q)
  have HH5 := hid (fun (w' : World) (h : LpE w w' p dp wS5 wD3 4 3) => show Calls Tryz.prog 19 #[.pointer (some ⟨p, 0, none⟩)] w' (PNums w' [1, 2]) by
    have q := lp_held h
    rw [wsh] at q
    exact q)
  have HG5 := hid (fun (w' : World) (h : LpE w w' p dp wS5 wD3 4 3) => show Calls Tryz.prog 14 #[.pointer (some ⟨p, 0, none⟩), .int .i64 2] w' (PLg w w' p dp (F.getS wS5 wD3 2) wD3 5 3 0 (pl 2 5)) by
    have q := lq_get h (by decide) (by decide) 2
    rw [wsf.1, wsf.2] at q
    exact q)
  have HPl := hid (fun (w' : World) (z y : Int) (bs : List UInt8) (h : Pls z y bs) => plain_r h w')
  go_upto_region 5 with (first
    | (go_at_call 13; refine (HPl.out _ _ _ _ (by first | exact .inl ⟨rfl, rfl, rfl⟩ | exact .inr (.inl ⟨rfl, rfl, rfl⟩))).mono ?_; rintro e wp ⟨pa, pk, rfl, Hp⟩)
    | (go_at_call 12; refine (HP2.out _ (HL1.out.add Hp.out.2.2.2.2) pa pk Hp.out.2.1 Hp.out.2.2.1 Hp.out.2.2.2.1).mono ?_; rintro e w3 ⟨rfl, HL2⟩)
    | (go_at_call 12; refine (HP1.out _ (HL.out.add Hp.out.2.2.2.2) pa pk Hp.out.2.1 Hp.out.2.2.1 Hp.out.2.2.2.1).mono ?_; rintro e w2 ⟨rfl, HL1⟩)
    | (go_at_call 14; refine (HG2.out _ HL2.out).mono ?_; rintro e w4 ⟨gv, rfl, Hg⟩))
  obtain ⟨O4, OD4, hL4, _⟩ := Hg.out.2
  have HL4 := hid (show LpE w w4 p dp wS2 wD0 3 0 from ⟨O4, OD4, hL4⟩)
  clear hL4
  go_upto_region 7 with (first
    | (go_at_call 15; refine (HA3.out _ HL4.out).mono ?_; rintro e w5 ⟨rfl, HL5⟩)
    | (go_at_call 16; refine (HF4.out _ HL5.out).mono ?_; rintro e w6 ⟨rfl, HL6⟩)
    | (go_at_call 17; refine (HS4.out _ HL6.out).mono ?_; rintro e _ ⟨rfl, hw⟩; rw [hw]; clear hw)
    | (go_at_call 13; refine (HPl.out _ _ _ _ (by exact .inr (.inr ⟨rfl, rfl, rfl⟩))).mono ?_; rintro e wp ⟨pa, pk, rfl, Hp⟩)
    | (go_at_call 12; refine (HP5.out _ (HL6.out.add Hp.out.2.2.2.2) pa pk Hp.out.2.1 Hp.out.2.2.1 Hp.out.2.2.2.1).mono ?_; rintro e w7 ⟨rfl, HL7⟩)
    | (go_at_call 19; refine (HH5.out _ HL7.out).mono ?_; rintro e w8 ⟨hv, rfl, Hh⟩; obtain ⟨ha, hk, rfl, hna⟩ := row_nat Hh.out.1; have HNa := hid hna; clear hna)
    | (go_at_call 18; refine (HIn.out _ ha hk (HNa.out.adds ((Touch.refl _ w8).alloc _)) w8.heap.size (nat_two w8 1 2)).mono ?_; rintro e w9 ⟨rfl, hA9⟩; have HA9 := hid hA9; clear hA9))
  have HL9 := hid (HL7.out.add ((Hh.out.2.alloc _).trans HA9.out))
  go_upto_region 8 with (go_at_call 14; refine (HG5.out _ HL9.out).mono ?_; rintro e w10 ⟨gv, rfl, Hg⟩)
  obtain ⟨O10, OD10, hL10, _⟩ := Hg.out.2
  have hl25 : (pl 2 5).length = 256 := pl_len (by decide) 5
  have hrow := Hg.out.1
  rw [hl25] at hrow
  obtain ⟨gg, gk, rfl, _, _⟩ := Own.some hrow (by decide)
  have HAt := hid (At.own hrow)
  have HA10 := hid hL10.adds
  have HCv := hid (fun (w' : World) (a : Option Addr) (k : Nat) (h : At w' a (pl 2 5)) => show (convert 37 9 (.slice a 256 k)).run Tryz.prog w' = .ok (.string ⟨(pl 2 5).toArray⟩) w' by
    have q := conv_at w' a (pl 2 5) k h
    rw [hl25] at q
    exact q)
  have hcv0 := HCv.out w10.drew (some ⟨gg, 0, none⟩) gk (HAt.out.adds (Touch.refl _ w10).drew)
  clear hrow hL10 hl25
  generalize (⟨(pl 2 5).toArray⟩ : ByteArray) = str at *
  have hsl : (str.toList == str.toList) = true := by simp
  go_region_with (go_at_call 13; refine (HPl.out _ _ _ _ (by exact .inr (.inr ⟨rfl, rfl, rfl⟩))).mono ?_; rintro e w11 ⟨pa, pk, rfl, Hp⟩; have hcv1 := HCv.out w11 (some ⟨gg, 0, none⟩) gk (HAt.out.adds ((Touch.refl _ w10).drew.trans Hp.out.2.2.2.2)); have hcv2 := HCv.out w11 pa pk Hp.out.2.1)
  all_goals
    go_wp2
    go_ret
    exact ⟨by first | rfl | (simp only [hsl]; rfl), HA10.out.trans ((Touch.refl _ w10).drew.trans Hp.out.2.2.2.2)⟩
end Go.Proofs.YtjbdchgadfhffaaGreatDoor
