/- Texts put together: GForm, GWorks, GNobody. -/
import Derived.Test.YtokbiekdompaoaaDoorQ40
import Derived.Test.YtokbiekdompaoaaDoorQ42
/- Left; a space over a pool of its own. -/
namespace Go.Proofs.YtokbiekdompaoaaDoor
open Go.RowKit

/-- What Left leaves. -/
def PLf (w0 : World) (X : List (Nat × Obj)) (p dp : Nat) (D : dSt) (n kk : Nat) (c : Int) (R : List Int × Nat × F.Po) (e : Ending) (w' : World) : Prop := e = .returned (.tuple #[.int .i64 (if R.2.1 = 0 then c - R.1.length else 0), .int .i64 (R.2.1 : Int)]) ∧ Hid (LpX w0 w' X p dp R.2.2 D n kk)
theorem taken_ct (D : dSt) : ∀ (r k : Nat) (s : F.Po) (l : List Int), G.cnt (G.takenG D r k s l).2.2 = G.cnt s
  | 0, _, _, _ => rfl
  | r + 1, k, s, l => by
    unfold G.takenG
    split
    · rw [taken_ct D r (k + 1) _ _, G.get_ct]
    · exact G.get_ct s D _
theorem taken_lenG (D : dSt) : ∀ (r k : Nat) (s : F.Po) (l : List Int), (G.takenG D r k s l).1.length ≤ l.length + 1920 * r
  | 0, _, _, l => Nat.le_add_right _ _
  | r + 1, k, s, l => by
    unfold G.takenG
    split
    · rename_i hz
      have h1 := taken_lenG D r (k + 1) (F.getS s D k) (l ++ G.taken k (G.mapB s D k))
      have h2 := tak_len k (G.mapB s D k)
      have h3 := G.may_len (G.mapB_may hz).2.2.1
      have h4 := G.cells_le (G.cnt s) k
      rw [List.length_append] at h1
      omega
    · simp
set_option maxRecDepth 100000 in
set_option maxHeartbeats 2000000 in
theorem sleft_any {w0 w : World} {X : List (Nat × Obj)} {p dp : Nat} {s : F.Po} {D : dSt} {n kk sp : Nat} (h : LpX w0 w X p dp s D n kk) (hX : (sp, SBox p) ∈ X) (hn : n + 10 ≤ 1000000) (hk9 : kk ≤ 900) :
    Calls Tryd.prog 14 #[Ptr sp] w (PLf w0 X p dp D (n + 10) kk s.ct (G.takenG D (G.maps (G.cnt s)) 0 s [])) := by
  have HT := hid (staken_any h hX hn hk9)
  have hc := h.pok.cnt
  have hct := taken_ct D (G.maps (G.cnt s)) 0 s []
  have hle := taken_lenG D (G.maps (G.cnt s)) 0 s []
  have hm3 := G.maps_le hc.2.1
  generalize G.takenG D (G.maps (G.cnt s)) 0 s [] = R at *
  obtain ⟨l, z, s'⟩ := R
  have hll : l.length ≤ 6000 := by simp at hle; omega
  obtain ⟨c, hcc⟩ : ∃ c, c = G.cnt s := ⟨_, rfl⟩
  have HC := hid (And.intro hct (And.intro hcc hc.2.2))
  have HX := hid hX
  have hc9 : c ≤ 4096 := by omega
  obtain ⟨ll, hll'⟩ : ∃ ll, ll = l.length := ⟨_, rfl⟩
  have HLL := hid hll'
  rw [← hll'] at hll
  clear h hX hn hk9 hc hct hle hcc hll'
  by_cases hz : z = 0
  · subst hz
    go_enter Tryd.func14, Tryd.ntmps14
    go_wp2_with (first
      | (go_at_call 13; refine HT.out.mono ?_; rintro e w1 ⟨v, Y, rfl, H1⟩
         obtain ⟨va, vc, hv, _⟩ := H1.out.2.2
         rw [← HLL.out] at hv
         subst hv
         have hsp := H1.out.1.spc (H1.out.2.1 _ HX.out)
         have c1 : w1.cell? ⟨sp, 0, none⟩ = some (Ptr p) := by rw [cellOf hsp.box]; rfl
         have HN := hid (show Calls Tryd.prog 26 #[Ptr p] w1 (Tells (.int .i64 (c : Int)) w1) by have q := scount_any hsp; have e1 : G.cnt s' = G.cnt s := HC.out.1; rw [e1, ← HC.out.2.1] at q; exact q)
         clear hsp)
      | (go_at_call 26; refine HN.out.mono ?_; rintro e w2 ⟨rfl, hw⟩; rw [hw]; clear hw))
    go_ret2
    refine ⟨?_, H1.out.1.fewer H1.out.2.1⟩
    rw [if_pos rfl, ← HC.out.2.2, ← HC.out.2.1, ← HLL.out]
    rfl
  · have hz1 : ((z : Int) != 0) = true := by simp; omega
    have hz2 : ¬ (z : Int) = 0 := by omega
    go_enter Tryd.func14, Tryd.ntmps14
    go_wp2_with (go_at_call 13; refine HT.out.mono ?_; rintro e w1 ⟨v, Y, rfl, H1⟩; obtain ⟨va, vc, hv, _⟩ := H1.out.2.2; rw [← HLL.out] at hv; subst hv)
    go_ret2
    refine ⟨?_, H1.out.1.fewer H1.out.2.1⟩
    rw [if_neg hz]
    rfl
/-- A space over a pool of its own. -/
def PForm (w : World) (c : Nat) (e : Ending) (w' : World) : Prop := ∃ sp p dp, e = .returned (Ptr sp) ∧ Hid (LpX w w' [(sp, SBox p)] p dp (G.S1 c 8 (G.first c 0) true false []) (dSt.new c) 10 0 ∧ w.heap.size ≤ sp)
set_option maxRecDepth 100000 in
set_option maxHeartbeats 2000000 in
theorem formatted_any (c : Nat) (hc : 1 ≤ c) (hc2 : c ≤ 1920) (w : World) (hT : Tab w) : Calls Tryd.prog 18 #[.int .i64 (c : Int)] w (PForm w c) := by
  have HN := hid (new_yes (c : Int) w w.heap.size (Nat.le_refl _) (by omega) (by omega))
  have hok : F.openOk (dSt.new c) 0 c 8 = true := decide_eq_true ⟨by decide, by omega, by omega, by show (0 : Int) + c ≤ c; omega, by decide, by decide⟩
  have HO := hid (fun (w1 : World) (dp hb : Nat) (hd : IsDisk w1 0 dp hb (.slice none 0 0) (dSt.new c)) => show Calls Tryd.prog 8 #[Ptr dp, .int .i64 0, .int .i64 (c : Int), .int .i64 8] w1 (POpn w1 dp ⟨0, c, 8, []⟩) from bopen_ok (OD := fun k => k = dp ∨ k = hb) (k := 0) ⟨hb, _, hd, .inl rfl, .inr rfl, fun k hk => by cases hk⟩ (dnew_ok c 0 (by omega)) (by show (c : Int) ≤ 4096; omega) 0 c 8 hok)
  have HPk := hid (show POk ⟨0, c, 8, []⟩ (dSt.new c) from ⟨Int.le_refl _, by show (1 : Int) ≤ c; omega, by show (0 : Int) + c ≤ c; omega, by show (c : Int) ≤ 4096; omega, by show (1 : Int) ≤ 8; decide, by show (8 : Int) ≤ 256; decide⟩)
  have hf := G.format1 (c := c) (mo := 8) hc hc2 (by decide)
  have HF := hid (fun (w2 : World) (p dp : Nat) (h : LpE w w2 p dp ⟨0, c, 8, []⟩ (dSt.new c) 0 0) => show Calls Tryd.prog 9 #[Ptr p] w2 (PFm w [] p dp (dSt.new c) 10 0 (G.S1 c 8 (G.first c 0) true false [])) by
    have q := sformat_ok h.x (by omega) (by rw [show ((8 : Nat) : Int) = 8 from rfl] at hf; rw [hf])
    rw [show ((8 : Nat) : Int) = 8 from rfl] at hf
    rw [hf] at q
    exact q)
  have HT := hid hT
  have hc9 : (c : Int) ≤ 1920 := by omega
  have hc1 : (1 : Int) ≤ c := by omega
  have HD := hid (dnew_ok (c : Int) 0 (by omega))
  unfold Ptr at *
  clear hT hok hf
  go_enter Tryd.func18, Tryd.ntmps18
  go_wp2_with (first
    | (go_at_call 6; refine HN.out.mono ?_; rintro e w1 ⟨dp, hb, rfl, hp, hhb, hd, hA1⟩; have H1 := hid (And.intro hp (And.intro hhb (And.intro (hd.mono (Nat.zero_le _)) hA1))); clear hd hA1 hp hhb)
    | (go_at_call 8; refine (HO.out w1 dp hb H1.out.2.2.1).mono ?_; rintro e w2 ⟨p, rfl, H2⟩)
    | (go_at_call 9; refine (HF.out w2 p dp (lp_new HT.out H1.out.2.2.2 H1.out.2.2.1 H1.out.1 H1.out.2.1 HD.out H2.out.1 H2.out.2 HPk.out)).mono ?_; rintro e w3 ⟨sp, rfl, H3⟩))
  go_ret
  exact ⟨sp, p, dp, rfl, H3.out.1, H3.out.2.1⟩
end Go.Proofs.YtokbiekdompaoaaDoor

/- A space of one map: its calls; the chapter's example. -/
namespace Go.Proofs.YtokbiekdompaoaaDoor
open Go.RowKit

def wsOf (x : List UInt8) (fr dt : Bool) (ws : List UInt8) : List UInt8 := if fr then ws else if dt then G.pg 0 x else []
section
variable {w0 w : World} {X : List (Nat × Obj)} {p dp c mo n kk sp : Nat} {x ws : List UInt8} {fr dt : Bool} {D : dSt}
set_option maxRecDepth 100000 in
theorem s1_alloc (h : LpX w0 w X p dp (G.S1 c mo x fr dt ws) D n kk) (hX : (sp, SBox p) ∈ X) (hn : n + 10 ≤ 1000000) (hk9 : kk ≤ 900) (hc : 1 ≤ c) (hc2 : c ≤ 1920) (hx : G.may c 0 x = true) {i : Nat} (hi : G.least c 0 x = some i) :
    Calls Tryd.prog 12 #[Ptr sp] w (fun e w' => e = .returned (.tuple #[.int .i64 (i : Int), .int .i64 0]) ∧ Hid (LpX w0 w' X p dp (G.S1 c mo (G.flip x i) true dt (wsOf x fr dt ws)) D (n + 10) kk)) := by
  have q := salloc_any h hX hn hk9
  rw [G.cnt1, G.maps1 hc hc2, G.alloc1 hc mo fr dt ws D hx hi] at q
  exact q
set_option maxRecDepth 100000 in
theorem s1_full (h : LpX w0 w X p dp (G.S1 c mo x fr dt ws) D n kk) (hX : (sp, SBox p) ∈ X) (hn : n + 10 ≤ 1000000) (hk9 : kk ≤ 900) (hc : 1 ≤ c) (hc2 : c ≤ 1920) (hx : G.may c 0 x = true) (hi : G.least c 0 x = none) :
    Calls Tryd.prog 12 #[Ptr sp] w (fun e w' => e = .returned (.tuple #[.int .i64 0, .int .i64 30]) ∧ Hid (LpX w0 w' X p dp (G.S1 c mo x fr dt ws) D (n + 10) kk)) := by
  have q := salloc_any h hX hn hk9
  rw [G.cnt1, G.maps1 hc hc2, G.alloc1' hc mo fr dt ws D hx hi] at q
  exact q
set_option maxRecDepth 100000 in
theorem s1_free (h : LpX w0 w X p dp (G.S1 c mo x fr dt ws) D n kk) (hX : (sp, SBox p) ∈ X) (hn : n + 10 ≤ 1000000) (hk9 : kk ≤ 900) (hc : 1 ≤ c) (hc2 : c ≤ 1920) (hx : G.may c 0 x = true) {m : Nat} (hm : 1 ≤ m) (hm2 : m < c) (hb : G.bit x m = true) :
    Calls Tryd.prog 16 #[Ptr sp, .int .i64 (m : Int)] w (fun e w' => e = .returned (.int .i64 0) ∧ Hid (LpX w0 w' X p dp (G.S1 c mo (G.flip x m) true dt (wsOf x fr dt ws)) D (n + 10) kk)) := by
  have q := sfree_any h hX hn hk9 (m : Int)
  rw [G.free1 hc hc2 mo fr dt ws D hx hm hm2, if_pos hb] at q
  exact q
set_option maxRecDepth 100000 in
theorem s1_none (h : LpX w0 w X p dp (G.S1 c mo x fr dt ws) D n kk) (hX : (sp, SBox p) ∈ X) (hn : n + 10 ≤ 1000000) (hk9 : kk ≤ 900) (hc : 1 ≤ c) (hc2 : c ≤ 1920) (hx : G.may c 0 x = true) {m : Nat} (hm : 1 ≤ m) (hm2 : m < c) (hb : G.bit x m = false) :
    Calls Tryd.prog 16 #[Ptr sp, .int .i64 (m : Int)] w (fun e w' => e = .returned (.int .i64 40) ∧ Hid (LpX w0 w' X p dp (G.S1 c mo x fr dt ws) D (n + 10) kk)) := by
  have q := sfree_any h hX hn hk9 (m : Int)
  rw [G.free1 hc hc2 mo fr dt ws D hx hm hm2, hb] at q
  exact q
set_option maxRecDepth 100000 in
theorem s1_inv (h : LpX w0 w X p dp (G.S1 c mo x fr dt ws) D n kk) (hX : (sp, SBox p) ∈ X) (hn : n + 10 ≤ 1000000) (hk9 : kk ≤ 900) (hc : 1 ≤ c) (hc2 : c ≤ 1920) {no : Int} (hno : no < 1 ∨ (c : Int) ≤ no) :
    Calls Tryd.prog 16 #[Ptr sp, .int .i64 no] w (fun e w' => e = .returned (.int .i64 2) ∧ Hid (LpX w0 w' X p dp (G.S1 c mo x fr dt ws) D (n + 10) kk)) := by
  have q := sfree_any h hX hn hk9 no
  rw [G.free1' hc hc2 mo x fr dt ws D hno] at q
  exact q
set_option maxRecDepth 100000 in
theorem s1_taken (h : LpX w0 w X p dp (G.S1 c mo x fr dt ws) D n kk) (hX : (sp, SBox p) ∈ X) (hn : n + 10 ≤ 1000000) (hk9 : kk ≤ 900) (hc : 1 ≤ c) (hc2 : c ≤ 1920) (hx : G.may c 0 x = true) :
    Calls Tryd.prog 13 #[Ptr sp] w (fun e w' => ∃ v Y, e = .returned (.tuple #[v, .int .i64 0]) ∧ Hid (LpX w0 w' Y p dp (G.S1 c mo x fr dt ws) D (n + 10) kk ∧ (∀ y ∈ X, y ∈ Y) ∧ AgX Y v (G.taken 0 x))) := by
  have q := staken_any h hX hn hk9
  rw [G.cnt1, G.maps1 hc hc2, G.taken1 hc mo fr dt ws D hx] at q
  exact q
end
/-- The cells of the example. -/
def wx : Nat → List UInt8
  | 1 => [1]
  | 2 => [3]
  | 3 => [7]
  | _ => [15]
theorem wx_may : ∀ i, 1 ≤ i → i ≤ 4 → G.may 4 0 (wx i) = true
  | 1, _, _ => by decide
  | 2, _, _ => by decide
  | 3, _, _ => by decide
  | 4, _, _ => by decide
theorem wx_least : ∀ i, 1 ≤ i → i < 4 → G.least 4 0 (wx i) = some i ∧ G.flip (wx i) i = wx (i + 1)
  | 1, _, _ => by decide
  | 2, _, _ => by decide
  | 3, _, _ => by decide
set_option maxRecDepth 100000 in
set_option maxHeartbeats 4000000 in
theorem works12 (w : World) (hT : Tab w) : Calls Tryd.prog 7 #[] w (Adding (.bool true) w) := by
  have HF := hid (formatted_any 4 (by decide) (by decide) w hT)
  have e4 : ((4 : Nat) : Int) = 4 := rfl
  rw [e4] at HF
  have hfst : G.first 4 0 = wx 1 := by decide
  clear hT e4
  go_enter Tryd.func7, Tryd.ntmps7
  go_upto_region 4 with (go_at_call 18; refine HF.out.mono ?_; rintro e w1 ⟨sp, p, dp, rfl, H1⟩)
  rw [hfst] at H1
  clear hfst HF
  go_wp2_with fail
  go_loopw [2] (fun iv wr => ∃ i : Nat, iv = .int .i64 (i : Int) ∧ 1 ≤ i ∧ i ≤ 4 ∧ Hid (LpX w wr [(sp, SBox p)] p dp (G.S1 4 8 (wx i) true false []) (dSt.new (4 : Nat)) (10 * i) 0)) (fun iv _ => 4 - (intOf iv).toNat)
  case atStart => exact ⟨1, rfl, by decide, by decide, H1.out.1⟩
  case round =>
    obtain ⟨i, rfl, hi1, hi4, HI⟩ := hrel
    by_cases hlt : i < 4
    · have hltz : (i : Int) < 4 := by omega
      have HA := hid (s1_alloc HI.out List.mem_cons_self (by omega) (by omega) (by decide) (by decide) (wx_may i hi1 hi4) (wx_least i hi1 hlt).1)
      rw [(wx_least i hi1 hlt).2] at HA
      go_wp2_with (go_at_call 12; refine HA.out.mono ?_; rintro e w2 ⟨rfl, H2⟩)
      go_roundw
      case rel => exact ⟨i + 1, by go_num, by omega, by omega, H2.out⟩
      case measure => simp [intOf]; omega
    · obtain rfl : i = 4 := by omega
      have HA := hid (s1_full HI.out List.mem_cons_self (by omega) (by omega) (by decide) (by decide) (wx_may 4 hi1 hi4) (by decide))
      have HB := hid (fun w' (h : LpX w w' [(sp, SBox p)] p dp (G.S1 4 8 (wx 4) true false []) (dSt.new (4 : Nat)) 50 0) => show Calls Tryd.prog 16 #[Ptr sp, .int .i64 2] w' (fun e w2 => e = .returned (.int .i64 0) ∧ Hid (LpX w w2 [(sp, SBox p)] p dp (G.S1 4 8 [11] true false []) (dSt.new (4 : Nat)) 60 0)) by
        have q := s1_free h List.mem_cons_self (by omega) (by omega) (by decide) (by decide) (wx_may 4 hi1 hi4) (m := 2) (by decide) (by decide) (by decide)
        exact q)
      have HC := hid (fun w' (h : LpX w w' [(sp, SBox p)] p dp (G.S1 4 8 [11] true false []) (dSt.new (4 : Nat)) 60 0) => s1_inv h List.mem_cons_self (by omega) (by omega) (by decide) (by decide) (no := 0) (.inl (by decide)))
      have HD := hid (fun w' (h : LpX w w' [(sp, SBox p)] p dp (G.S1 4 8 [11] true false []) (dSt.new (4 : Nat)) 70 0) => show Calls Tryd.prog 12 #[Ptr sp] w' (fun e w2 => e = .returned (.tuple #[.int .i64 2, .int .i64 0]) ∧ Hid (Adds w w2)) by
        refine (s1_alloc h List.mem_cons_self (by omega) (by omega) (by decide) (by decide) (by decide) (i := 2) (by decide)).mono ?_
        rintro e w2 ⟨rfl, H⟩
        exact ⟨rfl, H.out.e.adds⟩)
      clear hlt hi1 hi4
      unfold Ptr at *
      go_wp2_with (first
        | (go_at_call 12; refine HA.out.mono ?_; rintro e w2 ⟨rfl, H2⟩; clear HA)
        | (go_at_call 12; refine (HD.out _ H4.out).mono ?_; rintro e w5 ⟨rfl, H5⟩)
        | (go_at_call 16; refine (HB.out _ H2.out).mono ?_; rintro e w3 ⟨rfl, H3⟩; clear HB)
        | (go_at_call 16; refine (HC.out _ H3.out).mono ?_; rintro e w4 ⟨rfl, H4⟩; clear HC))
      go_ret
      exact ⟨rfl, H5.out⟩
end Go.Proofs.YtokbiekdompaoaaDoor

/- Spaces that are none. -/
namespace Go.Proofs.YtokbiekdompaoaaDoor
open Go.RowKit

set_option maxRecDepth 100000 in
theorem zeroPoolG (w : World) : (Instr.build 44 #[]).run Tryd.prog w = .ok (.agg #[.pointer none, .int .i64 0, .int .i64 0, .int .i64 0, .map none, .int .i64 0]) w := by kernel_rfl
set_option maxRecDepth 100000 in
theorem zeroSpace (w : World) : (Instr.build 47 #[]).run Tryd.prog w = .ok (.agg #[.pointer none]) w := by kernel_rfl
/-- A space that has no pool. -/
def Unsp (w : World) (x : Value) : Prop := Calls Tryd.prog 17 #[x] w (Tells (.pointer none) w)
set_option maxRecDepth 100000 in
set_option maxHeartbeats 400000 in
theorem unsp_nil (w : World) : Unsp w (.pointer none) := by
  unfold Unsp
  go_enter Tryd.func17, Tryd.ntmps17
  go_wp2_with fail
  go_ret
  exact ⟨rfl, rfl⟩
set_option maxRecDepth 100000 in
set_option maxHeartbeats 400000 in
theorem unsp_zero (w : World) (sp : Nat) (h : w.cell? ⟨sp, 0, none⟩ = some (.pointer none)) : Unsp w (.pointer (some ⟨sp, 0, none⟩)) := by
  unfold Unsp
  go_enter Tryd.func17, Tryd.ntmps17
  go_wp2_with fail
  go_ret
  exact ⟨rfl, rfl⟩
set_option maxRecDepth 100000 in
set_option maxHeartbeats 400000 in
theorem smade_un (x : Value) (w : World) (h : Unsp w x) : Calls Tryd.prog 22 #[x] w (Tells (.bool false) w) := by
  have H1 := hid (show Calls Tryd.prog 17 #[x] w (Tells (.pointer none) w) from h)
  have H2 := hid (count_un (.pointer none) w (unpool_nil w))
  clear h
  go_enter Tryd.func22, Tryd.ntmps22
  go_wp2_with (first
    | (go_at_call 17; refine H1.out.mono ?_; rintro e w1 ⟨rfl, hw⟩; rw [hw]; clear hw)
    | (go_at_call 26; refine H2.out.mono ?_; rintro e w1 ⟨rfl, hw⟩; rw [hw]; clear hw))
  go_ret
  exact ⟨rfl, rfl⟩
set_option maxRecDepth 100000 in
set_option maxHeartbeats 400000 in
theorem smaps_un (x : Value) (w : World) (h : Unsp w x) : Calls Tryd.prog 10 #[x] w (Tells (.int .i64 0) w) := by
  have H1 := hid (show Calls Tryd.prog 17 #[x] w (Tells (.pointer none) w) from h)
  have H2 := hid (count_un (.pointer none) w (unpool_nil w))
  have H3 := hid (show Calls Tryd.prog 25 #[.int .i64 0, .int .i64 1920] w (Tells (.int .i64 0) w) from shares_map w 0 (by decide))
  clear h
  go_enter Tryd.func10, Tryd.ntmps10
  go_wp2_with (first
    | (go_at_call 17; refine H1.out.mono ?_; rintro e w1 ⟨rfl, hw⟩; rw [hw]; clear hw)
    | (go_at_call 26; refine H2.out.mono ?_; rintro e w1 ⟨rfl, hw⟩; rw [hw]; clear hw)
    | (go_at_call 25; refine H3.out.mono ?_; rintro e w1 ⟨rfl, hw⟩; rw [hw]; clear hw))
  go_ret
  exact ⟨rfl, rfl⟩
set_option maxRecDepth 100000 in
set_option maxHeartbeats 400000 in
theorem salloc_un (x : Value) (w : World) (h : Unsp w x) : Calls Tryd.prog 12 #[x] w (Tells (.tuple #[.int .i64 0, .int .i64 1]) w) := by
  have H1 := hid (smade_un x w h)
  clear h
  go_enter Tryd.func12, Tryd.ntmps12
  go_wp2_with (go_at_call 22; refine H1.out.mono ?_; rintro e w1 ⟨rfl, hw⟩; rw [hw]; clear hw)
  go_ret2
  exact ⟨rfl, rfl⟩
set_option maxRecDepth 100000 in
set_option maxHeartbeats 400000 in
theorem staken_un (x : Value) (w : World) (h : Unsp w x) : Calls Tryd.prog 13 #[x] w (Tells (.tuple #[.slice none 0 0, .int .i64 1]) w) := by
  have H1 := hid (smade_un x w h)
  clear h
  go_enter Tryd.func13, Tryd.ntmps13
  go_wp2_with (go_at_call 22; refine H1.out.mono ?_; rintro e w1 ⟨rfl, hw⟩; rw [hw]; clear hw)
  go_ret2
  exact ⟨rfl, rfl⟩
set_option maxRecDepth 100000 in
set_option maxHeartbeats 400000 in
theorem sleft_un (x : Value) (w : World) (h : Unsp w x) : Calls Tryd.prog 14 #[x] w (Tells (.tuple #[.int .i64 0, .int .i64 1]) w) := by
  have H1 := hid (staken_un x w h)
  clear h
  go_enter Tryd.func14, Tryd.ntmps14
  go_wp2_with (go_at_call 13; refine H1.out.mono ?_; rintro e w1 ⟨rfl, hw⟩; rw [hw]; clear hw)
  go_ret2
  exact ⟨rfl, rfl⟩
set_option maxRecDepth 100000 in
set_option maxHeartbeats 400000 in
theorem sfree_un (x : Value) (no : Int) (w : World) (h : Unsp w x) : Calls Tryd.prog 16 #[x, .int .i64 no] w (Tells (.int .i64 1) w) := by
  have H1 := hid (smade_un x w h)
  clear h
  go_enter Tryd.func16, Tryd.ntmps16
  go_wp2_with (go_at_call 22; refine H1.out.mono ?_; rintro e w1 ⟨rfl, hw⟩; rw [hw]; clear hw)
  go_ret
  exact ⟨rfl, rfl⟩
set_option maxRecDepth 100000 in
set_option maxHeartbeats 400000 in
theorem smade_over (sp : Nat) (q : Option Addr) (w : World) (h : w.cell? ⟨sp, 0, none⟩ = some (.pointer q)) (hu : Unpool w (.pointer q)) : Calls Tryd.prog 22 #[.pointer (some ⟨sp, 0, none⟩)] w (Tells (.bool false) w) := by
  have H1 := hid (show Calls Tryd.prog 17 #[.pointer (some ⟨sp, 0, none⟩)] w (Tells (.pointer q) w) by
    go_enter Tryd.func17, Tryd.ntmps17
    go_wp2_with fail
    go_ret
    exact ⟨rfl, rfl⟩)
  have H2 := hid (count_un (.pointer q) w hu)
  clear h hu
  go_enter Tryd.func22, Tryd.ntmps22
  go_wp2_with (first
    | (go_at_call 17; refine H1.out.mono ?_; rintro e w1 ⟨rfl, hw⟩; rw [hw]; clear hw)
    | (go_at_call 26; refine H2.out.mono ?_; rintro e w1 ⟨rfl, hw⟩; rw [hw]; clear hw))
  go_ret
  exact ⟨rfl, rfl⟩
set_option maxRecDepth 100000 in
set_option maxHeartbeats 400000 in
theorem sformat_un (q : Option Addr) (w : World) (hu : ∀ w', Adds w w' → Unpool w' (.pointer q)) : Calls Tryd.prog 9 #[.pointer q] w (Adding (.tuple #[.pointer none, .int .i64 1]) w) := by
  have H1 := hid (smade_over w.heap.size q (w.alloc (.cells #[.pointer q] 47)) (Boxed.new w 47 (.pointer q)).cell (hu _ ((Touch.refl _ w).alloc _)))
  clear hu
  go_enter Tryd.func9, Tryd.ntmps9
  go_wp2_with (go_at_call 22; refine H1.out.mono ?_; rintro e w1 ⟨rfl, hw⟩; rw [hw]; clear hw)
  go_ret2
  exact ⟨rfl, (Touch.refl _ w).alloc _⟩
set_option maxRecDepth 100000 in
set_option maxHeartbeats 400000 in
theorem sopen_un (q : Option Addr) (w : World) (hu : ∀ w', Adds w w' → Unpool w' (.pointer q)) : Calls Tryd.prog 15 #[.pointer q] w (Adding (.tuple #[.pointer none, .int .i64 1]) w) := by
  have H1 := hid (smade_over w.heap.size q (w.alloc (.cells #[.pointer q] 47)) (Boxed.new w 47 (.pointer q)).cell (hu _ ((Touch.refl _ w).alloc _)))
  clear hu
  go_enter Tryd.func15, Tryd.ntmps15
  go_wp2_with (go_at_call 22; refine H1.out.mono ?_; rintro e w1 ⟨rfl, hw⟩; rw [hw]; clear hw)
  go_ret2
  exact ⟨rfl, (Touch.refl _ w).alloc _⟩
set_option maxRecDepth 100000 in
set_option maxHeartbeats 4000000 in
theorem nobody12 (no : Int) (w : World) (hT : Tab w) : Calls Tryd.prog 4 #[.int .i64 no] w (Adding (.bool true) w) := by
  have HW := hid (fun w' (hA : Adds w w') => works12 w' (hT.adds hA))
  have hzl := zeroPoolG
  have hzs := zeroSpace
  clear hT
  go_enter Tryd.func4, Tryd.ntmps4
  go_wp2_with fail
  obtain ⟨w3, hw3⟩ : ∃ w3 : World, w3 = (w.alloc (.cells #[.pointer none, .int .i64 0, .int .i64 0, .int .i64 0, .map none, .int .i64 0] 44)).alloc (.cells #[.pointer none, .pointer (some ⟨w.heap.size, 0, none⟩)] 27) := ⟨_, rfl⟩
  rw [← hw3]
  have hA3 : Adds w w3 := by rw [hw3]; exact ((Touch.refl _ w).alloc _).alloc _
  have z0 : w3.cell? ⟨w.heap.size, 0, none⟩ = some (.pointer none) := by rw [hw3]; simp [go_sem]
  have s0 : w3.cell? ⟨w.heap.size + 1, 0, none⟩ = some (.pointer none) := by rw [hw3]; simp [go_sem]
  have s1 : w3.cell? ⟨w.heap.size + 1, 1, none⟩ = some (.pointer (some ⟨w.heap.size, 0, none⟩)) := by rw [hw3]; simp [go_sem]
  clear hw3
  have HU0 := hid (fun w' => unpool_nil w')
  have HU1 := hid (fun w' (hA : Adds w3 w') => show Unpool w' (.pointer (some ⟨w.heap.size, 0, none⟩)) from unpool_zero w' w.heap.size (below_adds hA z0))
  have HA3 := hid hA3
  have HS := hid (And.intro s0 s1)
  clear hA3 z0 s0 s1
  go_loopw [21] (fun t wr => ∃ k : Nat, k ≤ 2 ∧ t = .int .i64 k ∧ Hid (Adds w3 wr)) (fun t _ => 2 - (intOf t).toNat)
  case atStart => exact ⟨0, by omega, rfl, Touch.refl _ _⟩
  case round =>
    obtain ⟨k, hk, rfl, HI0⟩ := hrel
    obtain ⟨wz, hwz⟩ : ∃ wz, wz = wr := ⟨_, rfl⟩
    rw [← hwz] at HI0 ⊢
    clear hwz
    have s0 := below_adds HI0.out HS.out.1
    have s1 := below_adds HI0.out HS.out.2
    obtain rfl | rfl | rfl : k = 0 ∨ k = 1 ∨ k = 2 := by omega
    · go_wp2_with (first
        | (go_at_call 9; refine (sformat_un none wz (fun w' _ => HU0.out w')).mono ?_; rintro e w5 ⟨rfl, h5⟩; have H5 := hid h5; clear h5)
        | (go_at_call 15; refine (sopen_un none w5 (fun w' _ => HU0.out w')).mono ?_; rintro e w6 ⟨rfl, h6⟩; have H6 := hid h6; clear h6))
      go_roundw
      case rel => exact ⟨1, by omega, rfl, (HI0.out.trans H5.out).trans H6.out⟩
      case measure => simp [intOf]
    · go_wp2_with (first
        | (go_at_call 9; refine (sformat_un (some ⟨w.heap.size, 0, none⟩) wz (fun w' h' => HU1.out w' (HI0.out.trans h'))).mono ?_; rintro e w5 ⟨rfl, h5⟩; have H5 := hid h5; clear h5)
        | (go_at_call 15; refine (sopen_un (some ⟨w.heap.size, 0, none⟩) w5 (fun w' h' => HU1.out w' ((HI0.out.trans H5.out).trans h'))).mono ?_; rintro e w6 ⟨rfl, h6⟩; have H6 := hid h6; clear h6))
      go_roundw
      case rel => exact ⟨2, by omega, rfl, (HI0.out.trans H5.out).trans H6.out⟩
      case measure => simp [intOf]
    · clear s0 s1
      go_wp2_with fail
      obtain ⟨w4, hw4⟩ : ∃ w4 : World, w4 = (wz.alloc (.cells #[.pointer none] 47)).alloc (.cells #[.pointer none, .pointer (some ⟨wz.heap.size, 0, none⟩)] 30) := ⟨_, rfl⟩
      rw [← hw4]
      have HA4 : Hid (Adds w w4) := by rw [hw4]; exact ((HA3.out.trans HI0.out).alloc _).alloc _
      have y0 : w4.cell? ⟨wz.heap.size, 0, none⟩ = some (.pointer none) := by rw [hw4]; simp [go_sem]
      have q0 : w4.cell? ⟨wz.heap.size + 1, 0, none⟩ = some (.pointer none) := by rw [hw4]; simp [go_sem]
      have q1 : w4.cell? ⟨wz.heap.size + 1, 1, none⟩ = some (.pointer (some ⟨wz.heap.size, 0, none⟩)) := by rw [hw4]; simp [go_sem]
      clear hw4
      have HV0 := hid (fun w' => unsp_nil w')
      have HV1 := hid (fun w' (hA : Adds w4 w') => unsp_zero w' wz.heap.size (below_adds hA y0))
      have HQ := hid (And.intro q0 q1)
      clear y0 q0 q1
      go_loopw [54] (fun t wr => ∃ k : Nat, k ≤ 2 ∧ t = .int .i64 k ∧ Hid (Adds w4 wr)) (fun t _ => 2 - (intOf t).toNat)
      case atStart => exact ⟨0, by omega, rfl, Touch.refl _ _⟩
      case round =>
        obtain ⟨k, hk, rfl, HI⟩ := hrel
        have r0 := below_adds HI.out HQ.out.1
        have r1 := below_adds HI.out HQ.out.2
        obtain rfl | rfl | rfl : k = 0 ∨ k = 1 ∨ k = 2 := by omega
        · have HV := hid (HV0.out wr)
          go_wp2_with (first
            | (go_at_call 12; refine (salloc_un _ wr HV.out).mono ?_; rintro e _ ⟨rfl, hw⟩; rw [hw]; clear hw)
            | (go_at_call 13; refine (staken_un _ wr HV.out).mono ?_; rintro e _ ⟨rfl, hw⟩; rw [hw]; clear hw)
            | (go_at_call 14; refine (sleft_un _ wr HV.out).mono ?_; rintro e _ ⟨rfl, hw⟩; rw [hw]; clear hw)
            | (go_at_call 16; refine (sfree_un _ no wr HV.out).mono ?_; rintro e _ ⟨rfl, hw⟩; rw [hw]; clear hw)
            | (go_at_call 17; refine (show Calls Tryd.prog 17 #[.pointer none] wr _ from HV.out).mono ?_; rintro e _ ⟨rfl, hw⟩; rw [hw]; clear hw)
            | (go_at_call 10; refine (smaps_un _ wr HV.out).mono ?_; rintro e _ ⟨rfl, hw⟩; rw [hw]; clear hw))
          go_roundw
          case rel => (repeat apply Exists.intro); refine ⟨⟨1, by omega, rfl, HI.out⟩, rfl⟩
          case measure => simp [intOf]
        · have HV := hid (HV1.out wr HI.out)
          go_wp2_with (first
            | (go_at_call 12; refine (salloc_un _ wr HV.out).mono ?_; rintro e _ ⟨rfl, hw⟩; rw [hw]; clear hw)
            | (go_at_call 13; refine (staken_un _ wr HV.out).mono ?_; rintro e _ ⟨rfl, hw⟩; rw [hw]; clear hw)
            | (go_at_call 14; refine (sleft_un _ wr HV.out).mono ?_; rintro e _ ⟨rfl, hw⟩; rw [hw]; clear hw)
            | (go_at_call 16; refine (sfree_un _ no wr HV.out).mono ?_; rintro e _ ⟨rfl, hw⟩; rw [hw]; clear hw)
            | (go_at_call 17; refine (show Calls Tryd.prog 17 #[.pointer (some ⟨wz.heap.size, 0, none⟩)] wr _ from HV.out).mono ?_; rintro e _ ⟨rfl, hw⟩; rw [hw]; clear hw)
            | (go_at_call 10; refine (smaps_un _ wr HV.out).mono ?_; rintro e _ ⟨rfl, hw⟩; rw [hw]; clear hw))
          go_roundw
          case rel => (repeat apply Exists.intro); refine ⟨⟨2, by omega, rfl, HI.out⟩, rfl⟩
          case measure => simp [intOf]
        · go_wp2_with (first | (go_at_call 7; refine (HW.out wr (HA4.out.trans HI.out)).mono ?_; rintro e w9 ⟨rfl, hA9⟩))
          go_ret
          exact ⟨rfl, (HA4.out.trans HI.out).trans hA9⟩
end Go.Proofs.YtokbiekdompaoaaDoor
