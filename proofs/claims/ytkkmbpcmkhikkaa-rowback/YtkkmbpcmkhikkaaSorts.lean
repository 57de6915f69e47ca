/- Rows sorted; whether they are. -/
import Derived.Test.YtkkmbpcmkhikkaaStable
import Derived.Test.YtkkmbpcmkhikkaaBy
import Derived.Shelf.Abstract
namespace Go.Proofs.Ytkkmbpcmkhikkaa
open Go.RowKit

/-- What compares two rows, in whatever world that holds what this one holds. -/
structure CmpsA (q : Nat) (cb : Array Value) (cf : List M.V → List M.V → Int) (w : World) : Prop where
  run : ∀ w', Adds w w' → ∀ x y, IsRow w' x → IsRow w' y → Calls Try.prog q (#[.slice x.a x.r.length x.cap, .slice y.a y.r.length y.cap] ++ cb) w' (Tells w' (.int .i64 (cf x.r y.r)))
  ent : ∀ args w, (callFunc q args).run Try.prog w = .ok (.enter q args) w
theorem CmpsA.at {q : Nat} {cb : Array Value} {cf : List M.V → List M.V → Int} {w w1 : World} {g : Nat} (h : CmpsA q cb cf w) (hA : Adds w w1) (hg : w.heap.size ≤ g) : Cmps q cb cf g w1 :=
  ⟨fun w' hT => h.run w' (hA.then hT (fun i hi e => by omega)), h.ent⟩
theorem CmpsA.adds {q : Nat} {cb : Array Value} {cf : List M.V → List M.V → Int} {w w1 : World} (h : CmpsA q cb cf w) (hA : Adds w w1) : CmpsA q cb cf w1 := ⟨fun w' hT => h.run w' (hA.trans hT), h.ent⟩
theorem cmps_cmp (w : World) : CmpsA 11 #[] M.rcmp w := ⟨fun w' _ x y hx hy => by rw [Array.append_empty]; exact row_cmp x y w' hx hy, enters_of Try.func11 (by kernel_rfl) rfl⟩
theorem cmps_by (pb : Nat) (ka : Option Addr) (kcap : Nat) (o : List (Int × Bool)) (w : World) (hc : w.cell? ⟨pb, 0, none⟩ = some (.slice ka o.length kcap)) (hk : KAt w ka o) (hl : o.length ≤ 1000000) : CmpsA 38 #[.pointer (some ⟨pb, 0, none⟩)] (M.bycmp o) w :=
  ⟨fun w' hA x y hx hy => by
    have hc' : w'.cell? ⟨pb, 0, none⟩ = some (.slice ka o.length kcap) := by rw [World.cell?_of_block (w := w) (hA.block pb (World.block_lt_of_cell? w _ hc) id)]; exact hc
    exact by1_any pb ka kcap o x y w' hc' (hk.adds hA) hl hx hy, enters_of Try.func38 (by kernel_rfl) rfl⟩
theorem ord_of {cf : List M.V → List M.V → Int} (h : M.Cm cf) : M.Ord (ltc cf) :=
  ⟨fun x y hxy => by
    unfold ltc at hxy ⊢
    have := of_decide_eq_true hxy
    have := h.anti x.r y.r
    exact decide_eq_false (by omega), fun x y z h1 h2 => by
    unfold ltc at h1 h2 ⊢
    have k1 := of_decide_eq_false h1
    have k2 := of_decide_eq_false h2
    have a1 := h.anti x.r y.r
    have a2 := h.anti y.r z.r
    have a3 := h.anti x.r z.r
    have := h.tr x.r y.r z.r (by omega) (by omega)
    exact decide_eq_false (by omega)⟩

set_option maxHeartbeats 400000 in
theorem ins_nil (f : Value) (w : World) : Calls Try.prog 71 #[.slice none 0 0, .int .i64 0, .int .i64 0, f] w fun e w' => e = .returned (.tuple #[]) ∧ w' = w := by
  go_enter Try.func71, Try.ntmps71
  go_wp2_with fail
  go_loopw [8] (fun iv wr => iv = .int .i64 1 ∧ wr = w) (fun _ _ => 0)
  case atStart => exact ⟨rfl, rfl⟩
  case round =>
    obtain ⟨rfl, hw⟩ := hrel
    obtain rfl := hw.symm
    go_wp2_with fail
    go_end0
    exact ⟨rfl, rfl⟩
set_option maxHeartbeats 400000 in
theorem stable_nil (f : Value) (w : World) : Calls Try.prog 55 #[.slice none 0 0, .int .i64 0, f] w fun e w' => e = .returned (.tuple #[]) ∧ w' = w := by
  go_enter Try.func55, Try.ntmps55
  go_upto_region 2 with fail
  go_loopw [7, 8] (fun av bv wr => av = .int .i64 0 ∧ bv = .int .i64 20 ∧ wr = w) (fun _ _ _ => 0)
  case atStart => exact ⟨rfl, rfl, rfl⟩
  case round =>
    obtain ⟨rfl, rfl, hw⟩ := hrel
    obtain rfl := hw.symm
    go_wp2_with (first | (go_at_call 71; refine (ins_nil f _).mono ?_; rintro e w1 ⟨rfl, hw⟩; obtain rfl := hw.symm))
    go_loopw [6] (fun sv wr => sv = .int .i64 20 ∧ wr = w) (fun _ _ => 0)
    case atStart => exact ⟨rfl, by first | rfl | trivial⟩
    case round =>
      obtain ⟨rfl, hw⟩ := hrel
      obtain rfl := hw.symm
      go_wp2_with fail
      go_end0
      exact ⟨rfl, rfl⟩
set_option maxHeartbeats 400000 in
theorem sortStable_any (q : Nat) (cb : Array Value) (cf : List M.V → List M.V → Int) (ho : M.Ord (ltc cf)) (g cap L : Nat) (l : List Hd) (w : World) (hL : l.length = L) (hl : L ≤ 1000000) (hD : Dat w g l) (hC : Cmps q cb cf g w) :
    Calls Try.prog 37 #[.slice (some ⟨g, 0, none⟩) L cap, .func (.func q) #[] cb] w (PSort w g cf 0 L l) := by
  have H := hid (stable_any q cb cf ho g cap L l w hL hl hD hC)
  clear ho hD hC
  go_enter Try.func37, Try.ntmps37
  go_wp2_with (first | (go_at_call 55; refine H.out.mono ?_; rintro e w1 ⟨rfl, HR⟩))
  go_end0
  exact ⟨rfl, HR.out⟩
set_option maxHeartbeats 400000 in
theorem sortStable_nil (f : Value) (w : World) : Calls Try.prog 37 #[.slice none 0 0, f] w fun e w' => e = .returned (.tuple #[]) ∧ w' = w := by
  go_enter Try.func37, Try.ntmps37
  go_wp2_with (first | (go_at_call 55; refine (stable_nil f _).mono ?_; rintro e w1 ⟨rfl, hw⟩; obtain rfl := hw.symm))
  go_end0
  exact ⟨rfl, rfl⟩
/-- A list of rows in new memory. -/
def New (w : World) (a : Option Addr) (cap : Nat) (w' : World) (m : List Hd) : Prop := (a = none ∧ cap = 0 ∧ m = []) ∨ ∃ g, a = some ⟨g, 0, none⟩ ∧ w.heap.size ≤ g ∧ g < w'.heap.size ∧ m.length ≤ cap ∧ Dat w' g m
/-- What a call leaves that tells rows in an order. -/
def PSrt (w : World) (cf : List M.V → List M.V → Int) (l : List Hd) (e : Ending) (w' : World) : Prop :=
  ∃ a cap, e = .returned (.slice a l.length cap) ∧ Hid (∃ m, M.Mrg (ltc cf) 0 l.length l m ∧ New w a cap w' m ∧ Adds w w')
theorem dat_own {w w' : World} {base n g cap : Nat} {l : List Hd} (h : w'.ownsRow base 30 1 (.slice (some ⟨g, 0, none⟩) n cap) n (SH l)) (hr : ∀ x ∈ l, IsRow w x) (hA : Adds w w') (hg : w.heap.size ≤ g) : Dat w' g l := by
  have hc := (CAt.own h).rows
  rcases h.2 with ⟨e, _⟩ | ⟨g', cap', cur, e', _, hh, _, _, _, _⟩
  · cases e
  · obtain ⟨rfl, _⟩ : g = g' ∧ cap = cap' := by simpa using e'
    refine ⟨fun i hi => ?_, fun i _ => frozen_of_row w' g i cur 30 hh, fun x hx => (hr x hx).adds hA, fun x hx hne b o ea => ?_⟩
    · obtain ⟨b, o, e1, h1⟩ := hc i l[i] (List.getElem?_eq_getElem hi)
      obtain ⟨rfl, rfl⟩ : g = b ∧ 0 = o := by simpa using e1
      rw [Nat.zero_add] at h1
      rw [getElem!_pos l i hi]; exact h1
    · obtain ⟨v, r, er⟩ := List.exists_cons_of_ne_nil hne
      obtain ⟨b', o', e2, h0, _⟩ := (hr x hx).at_ 0 v (by rw [er]; rfl)
      rw [ea] at e2
      obtain ⟨rfl, rfl⟩ : b = b' ∧ o = o' := by simpa using e2
      have := World.block_lt_of_cell? w _ h0
      simp only at this
      omega
set_option maxHeartbeats 1000000 in
theorem sorted_any (q : Nat) (cb : Array Value) (cf : List M.V → List M.V → Int) (ho : M.Ord (ltc cf)) (a : Option Addr) (cap : Nat) (l : List Hd) (w : World) (hA : HAt w a l) (hcap : a = none → cap = 0) (hl : l.length ≤ 1000000) (hr : ∀ x ∈ l, IsRow w x) (hC : CmpsA q cb cf w) :
    Calls Try.prog 20 #[.slice a l.length cap, .func (.func q) #[] cb] w (PSrt w cf l) := by
  have HC := hid (concat_r w.heap.size a l cap (w.alloc (.cells #[.slice a l.length cap] 22)) hl (by rw [cellOf (heap_alloc_new w _) 0]; rfl) ((hA.adds ((Touch.refl _ w).alloc _)).cells) hcap)
  have HR := hid hr
  have HM := hid hC
  have HO := hid ho
  clear hA hcap hr hC ho
  go_enter Try.func20, Try.ntmps20
  go_upto_region 2 with (first | (go_at_call 36; refine HC.out.mono ?_; rintro e w1 ⟨v, rfl, HQ⟩))
  have A1 := hid (show Adds w w1 from ((Touch.refl _ w).alloc _).trans HQ.out.2)
  rcases HQ.out.1.2 with ⟨rfl, hn⟩ | ⟨g, cap', cur, rfl, hg, hh, hnc, _⟩
  · go_wp2_with (first | (go_at_call 37; refine (sortStable_nil _ _).mono ?_; rintro e w2 ⟨rfl, hw⟩; obtain rfl := hw.symm))
    go_ret
    have hnil : l = [] := List.eq_nil_of_length_eq_zero hn
    subst hnil
    exact ⟨none, 0, rfl, [], ⟨.refl _ _ _, fun i j _ _ h3 => absurd h3 (Nat.not_lt_zero _), fun _ => rfl⟩, .inl ⟨rfl, rfl, rfl⟩, A1.out⟩
  · have hg' : w.heap.size ≤ g := by simp only [World.size_alloc] at hg; omega
    have HG := hid hg'
    have HD := hid (dat_own HQ.out.1 HR.out A1.out hg')
    have HLT := hid (And.intro (lt_of_heap hh) hnc)
    clear hg hg' hh hnc
    go_wp2_with (first | (go_at_call 37; refine (sortStable_any q cb cf HO.out g cap' l.length l _ rfl hl HD.out (HM.out.at A1.out HG.out)).mono ?_; rintro e w2 ⟨rfl, HS⟩))
    go_ret
    obtain ⟨m, m1, m2, m3⟩ := HS.out
    exact ⟨some ⟨g, 0, none⟩, cap', rfl, m, m1, .inr ⟨g, rfl, HG.out, Nat.lt_of_lt_of_le HLT.out.1 m3.size, by rw [m1.mv.len]; exact HLT.out.2, m2⟩, A1.out.then m3 (fun i hi e => by have := HG.out; omega)⟩

/-- Whether each stands behind none that is greater: the one ahead. -/
theorem srt_adj {α : Type} [Inhabited α] {lt : α → α → Bool} (o : M.Ord lt) {n : Nat} {l : List α} (h : ∀ i, 0 < i → i < n → lt l[i]! l[i - 1]! = false) : ∀ (d i j : Nat), j - i = d → i < j → j < n → lt l[j]! l[i]! = false
  | 0, i, j, h1, h2, _ => by omega
  | d + 1, i, j, h1, h2, h3 => by
    by_cases e : i = j - 1
    · subst e; exact h j (by omega) h3
    · exact o.tr _ _ _ (srt_adj o h d i (j - 1) (by omega) (by omega) (by omega)) (h j (by omega) h3)
/-- What a call leaves that tells whether rows stand in an order. -/
def PIs (w : World) (cf : List M.V → List M.V → Int) (l : List Hd) (e : Ending) (w' : World) : Prop := ∃ y : Bool, e = .returned (.bool y) ∧ Hid ((y = true ↔ M.Srt (ltc cf) 0 l.length l) ∧ Adds w w')
set_option maxRecDepth 100000 in
set_option maxHeartbeats 2000000 in
theorem isSorted_any (q : Nat) (cb : Array Value) (cf : List M.V → List M.V → Int) (ho : M.Ord (ltc cf)) (a : Option Addr) (cap : Nat) (l : List Hd) (w : World) (hA : HAt w a l) (hl : l.length ≤ 1000000) (hr : ∀ x ∈ l, IsRow w x) (hC : CmpsA q cb cf w) :
    Calls Try.prog 24 #[.slice a l.length cap, .func (.func q) #[] cb] w (PIs w cf l) := by
  have eg := hC.ent
  have HH := hid hA
  have HR := hid hr
  have HM := hid hC
  have HO := hid ho
  clear hA hr hC ho
  go_enter Try.func24, Try.ntmps24
  go_wp2_with fail
  go_loopw [5] (fun iv wr => ∃ i : Int, iv = .int .i64 i ∧ -1 ≤ i ∧ i < (l.length : Int) ∧ Hid ((∀ k : Nat, i < (k : Int) → k < l.length → 0 < k → ltc cf l[k]! l[k - 1]! = false) ∧ Adds w wr)) (fun iv _ => (intOf iv).toNat)
  case atStart => exact ⟨(l.length : Int) - 1, by first | rfl | go_num, by omega, by omega, fun k h1 h2 h3 => by omega, Touch.refl _ _⟩
  case round =>
    obtain ⟨iz, rfl, hi1, hi2, HI⟩ := hrel
    by_cases hlt : 0 < iz
    · obtain ⟨i, rfl⟩ : ∃ i : Nat, iz = (i : Int) := ⟨iz.toNat, by omega⟩
      obtain ⟨j, hj⟩ : ∃ j, i = j + 1 := ⟨i - 1, by omega⟩
      obtain ⟨x, hx⟩ : ∃ x, l[i]? = some x := ⟨l[i]'(by omega), List.getElem?_eq_getElem _⟩
      obtain ⟨y, hy⟩ : ∃ y, l[j]? = some y := ⟨l[j]'(by omega), List.getElem?_eq_getElem _⟩
      obtain ⟨b, o, ea, hu⟩ := (HH.out.adds HI.out.2).get hx
      obtain ⟨b', o', ea', hv⟩ := (HH.out.adds HI.out.2).get hy
      subst ea
      obtain ⟨rfl, rfl⟩ : b = b' ∧ o = o' := by simpa using ea'
      have HX := hid hu
      have HY := hid hv
      obtain ⟨z, hz⟩ : ∃ z, cf x.r y.r = z := ⟨_, rfl⟩
      have HC : Hid (∀ w', Adds wr w' → Calls Try.prog q (#[.slice x.a x.r.length x.cap, .slice y.a y.r.length y.cap] ++ cb) w' (Tells w' (.int .i64 z))) := hid (fun (w' : World) (hA : Adds wr w') => by
        have := HM.out.run w' (HI.out.2.trans hA) x y ((HR.out x (List.mem_of_getElem? hx)).adds (HI.out.2.trans hA)) ((HR.out y (List.mem_of_getElem? hy)).adds (HI.out.2.trans hA))
        rw [hz] at this; exact this)
      have HZ := hid (show ltc cf l[i]! l[i - 1]! = decide (z < 0) by
        rw [show i - 1 = j by omega]
        simp only [List.getElem!_eq_getElem?_getD, hx, hy, Option.getD_some]
        unfold ltc; rw [hz])
      have h1 : (i : Int) < (l.length : Int) := by omega
      have h2 : (j : Int) < (l.length : Int) := by omega
      have h4 : IntKind.i64.wrap ((i : Int) - 1) = (j : Int) := by rw [IntKind.wrap_i64]; omega
      have h5 : wrap64 ((i : Int) - 1) = (j : Int) := by unfold wrap64; omega
      have HL := hid hj
      clear hx hy hu hv ea' hj hz
      go_upto_region 4 with fail
      by_cases hz0 : z < 0
      · 
        refine H_begin (S := fun w' => Adds wr w') (by kernel_rfl) ?_
        have hS : Adds wr wr.drew := (Touch.refl _ wr).drew
        refine H_put (i := 0) 13 (v := .func (.func q) #[] cb) rfl rfl (by kernel_rfl) (by kernel_rfl) (by kernel_rfl) (fun _ _ _ h => h) (Or.inl ⟨by rfl, fun w' hw' => ?_⟩) hS ?_
        · go_simp
        simp only [Act.put, List.setIfInBounds_toArray, List.set_cons_zero, List.set_cons_succ]
        refine H_put (i := 1) 14 (v := .slice (some ⟨b, o, none⟩) l.length cap) rfl rfl (by kernel_rfl) (by kernel_rfl) (by kernel_rfl) (fun _ _ _ h => h) (Or.inl ⟨by rfl, fun w' hw' => ?_⟩) hS ?_
        · go_simp
        simp only [Act.put, List.setIfInBounds_toArray, List.set_cons_zero, List.set_cons_succ]
        refine H_put (i := 2) 15 (v := .int .i64 (i : Int)) rfl rfl (by kernel_rfl) (by kernel_rfl) (by kernel_rfl) (fun _ _ _ h => h) (Or.inl ⟨by rfl, fun w' hw' => ?_⟩) hS ?_
        · go_simp
        simp only [Act.put, List.setIfInBounds_toArray, List.set_cons_zero, List.set_cons_succ]
        refine H_put (i := 3) 16 (v := .pointer (some ⟨b, o + i, none⟩)) rfl rfl (by kernel_rfl) (by kernel_rfl) (by kernel_rfl) (fun _ _ _ h => h) (Or.inl ⟨by rfl, fun w' hw' => ?_⟩) hS ?_
        · go_simp
        simp only [Act.put, List.setIfInBounds_toArray, List.set_cons_zero, List.set_cons_succ]
        refine H_put (i := 4) 17 (v := .slice x.a x.r.length x.cap) rfl rfl (by kernel_rfl) (by kernel_rfl) (by kernel_rfl) (fun _ _ _ h => h) (Or.inl ⟨by rfl, fun w' hw' => ?_⟩) hS ?_
        · have c0 := HX.out w' hw'; go_simp
        simp only [Act.put, List.setIfInBounds_toArray, List.set_cons_zero, List.set_cons_succ]
        refine H_put (i := 5) 18 (v := .slice (some ⟨b, o, none⟩) l.length cap) rfl rfl (by kernel_rfl) (by kernel_rfl) (by kernel_rfl) (fun _ _ _ h => h) (Or.inl ⟨by rfl, fun w' hw' => ?_⟩) hS ?_
        · go_simp
        simp only [Act.put, List.setIfInBounds_toArray, List.set_cons_zero, List.set_cons_succ]
        refine H_put (i := 6) 19 (v := .int .i64 (i : Int)) rfl rfl (by kernel_rfl) (by kernel_rfl) (by kernel_rfl) (fun _ _ _ h => h) (Or.inl ⟨by rfl, fun w' hw' => ?_⟩) hS ?_
        · go_simp
        simp only [Act.put, List.setIfInBounds_toArray, List.set_cons_zero, List.set_cons_succ]
        refine H_put (i := 7) 20 (v := .int .i64 (j : Int)) rfl rfl (by kernel_rfl) (by kernel_rfl) (by kernel_rfl) (fun _ _ _ h => h) (Or.inl ⟨by rfl, fun w' hw' => ?_⟩) hS ?_
        · go_simp
        simp only [Act.put, List.setIfInBounds_toArray, List.set_cons_zero, List.set_cons_succ]
        refine H_put (i := 8) 21 (v := .pointer (some ⟨b, o + j, none⟩)) rfl rfl (by kernel_rfl) (by kernel_rfl) (by kernel_rfl) (fun _ _ _ h => h) (Or.inl ⟨by rfl, fun w' hw' => ?_⟩) hS ?_
        · go_simp
        simp only [Act.put, List.setIfInBounds_toArray, List.set_cons_zero, List.set_cons_succ]
        refine H_put (i := 9) 22 (v := .slice y.a y.r.length y.cap) rfl rfl (by kernel_rfl) (by kernel_rfl) (by kernel_rfl) (fun _ _ _ h => h) (Or.inl ⟨by rfl, fun w' hw' => ?_⟩) hS ?_
        · have c0 := HY.out w' hw'; go_simp
        simp only [Act.put, List.setIfInBounds_toArray, List.set_cons_zero, List.set_cons_succ]
        refine H_call (i := 10) 23 q (#[.slice x.a x.r.length x.cap, .slice y.a y.r.length y.cap] ++ cb) (R := Tells wr.drew (.int .i64 z)) (by kernel_rfl) rfl rfl (by rfl) (by go_simp) ?_ ?_
        · exact HC.out _ hS
        rintro e wa ⟨rfl, hwa⟩
        have Awa := hid (Touch.trans hS hwa)
        refine ⟨_, fun w' => Adds wa w', rfl, Touch.refl _ _, fun w' h => Awa.out.trans h, ?_⟩
        clear hS
        have hS : Adds wa wa := Touch.refl _ _
        simp only [Act.put, List.setIfInBounds_toArray, List.set_cons_zero, List.set_cons_succ]
        refine H_put (i := 11) 24 (v := .bool true) rfl rfl (by kernel_rfl) (by kernel_rfl) (by kernel_rfl) (fun _ _ _ h => h) (Or.inl ⟨by rfl, fun w' hw' => ?_⟩) hS ?_
        · go_simp
        simp only [Act.put, List.setIfInBounds_toArray, List.set_cons_zero, List.set_cons_succ]
        refine wpAnyH_done (by kernel_rfl) ?_ _
        go_wp2_with fail
        go_ret
        refine ⟨false, rfl, ⟨fun h => (by cases h), fun hs => ?_⟩, HI.out.2.trans Awa.out⟩
        have := hs (i - 1) i (Nat.zero_le _) (by have := HL.out; omega) (by omega)
        rw [HZ.out, decide_eq_true hz0] at this; cases this
      · 
        refine H_begin (S := fun w' => Adds wr w') (by kernel_rfl) ?_
        have hS : Adds wr wr.drew := (Touch.refl _ wr).drew
        refine H_put (i := 0) 13 (v := .func (.func q) #[] cb) rfl rfl (by kernel_rfl) (by kernel_rfl) (by kernel_rfl) (fun _ _ _ h => h) (Or.inl ⟨by rfl, fun w' hw' => ?_⟩) hS ?_
        · go_simp
        simp only [Act.put, List.setIfInBounds_toArray, List.set_cons_zero, List.set_cons_succ]
        refine H_put (i := 1) 14 (v := .slice (some ⟨b, o, none⟩) l.length cap) rfl rfl (by kernel_rfl) (by kernel_rfl) (by kernel_rfl) (fun _ _ _ h => h) (Or.inl ⟨by rfl, fun w' hw' => ?_⟩) hS ?_
        · go_simp
        simp only [Act.put, List.setIfInBounds_toArray, List.set_cons_zero, List.set_cons_succ]
        refine H_put (i := 2) 15 (v := .int .i64 (i : Int)) rfl rfl (by kernel_rfl) (by kernel_rfl) (by kernel_rfl) (fun _ _ _ h => h) (Or.inl ⟨by rfl, fun w' hw' => ?_⟩) hS ?_
        · go_simp
        simp only [Act.put, List.setIfInBounds_toArray, List.set_cons_zero, List.set_cons_succ]
        refine H_put (i := 3) 16 (v := .pointer (some ⟨b, o + i, none⟩)) rfl rfl (by kernel_rfl) (by kernel_rfl) (by kernel_rfl) (fun _ _ _ h => h) (Or.inl ⟨by rfl, fun w' hw' => ?_⟩) hS ?_
        · go_simp
        simp only [Act.put, List.setIfInBounds_toArray, List.set_cons_zero, List.set_cons_succ]
        refine H_put (i := 4) 17 (v := .slice x.a x.r.length x.cap) rfl rfl (by kernel_rfl) (by kernel_rfl) (by kernel_rfl) (fun _ _ _ h => h) (Or.inl ⟨by rfl, fun w' hw' => ?_⟩) hS ?_
        · have c0 := HX.out w' hw'; go_simp
        simp only [Act.put, List.setIfInBounds_toArray, List.set_cons_zero, List.set_cons_succ]
        refine H_put (i := 5) 18 (v := .slice (some ⟨b, o, none⟩) l.length cap) rfl rfl (by kernel_rfl) (by kernel_rfl) (by kernel_rfl) (fun _ _ _ h => h) (Or.inl ⟨by rfl, fun w' hw' => ?_⟩) hS ?_
        · go_simp
        simp only [Act.put, List.setIfInBounds_toArray, List.set_cons_zero, List.set_cons_succ]
        refine H_put (i := 6) 19 (v := .int .i64 (i : Int)) rfl rfl (by kernel_rfl) (by kernel_rfl) (by kernel_rfl) (fun _ _ _ h => h) (Or.inl ⟨by rfl, fun w' hw' => ?_⟩) hS ?_
        · go_simp
        simp only [Act.put, List.setIfInBounds_toArray, List.set_cons_zero, List.set_cons_succ]
        refine H_put (i := 7) 20 (v := .int .i64 (j : Int)) rfl rfl (by kernel_rfl) (by kernel_rfl) (by kernel_rfl) (fun _ _ _ h => h) (Or.inl ⟨by rfl, fun w' hw' => ?_⟩) hS ?_
        · go_simp
        simp only [Act.put, List.setIfInBounds_toArray, List.set_cons_zero, List.set_cons_succ]
        refine H_put (i := 8) 21 (v := .pointer (some ⟨b, o + j, none⟩)) rfl rfl (by kernel_rfl) (by kernel_rfl) (by kernel_rfl) (fun _ _ _ h => h) (Or.inl ⟨by rfl, fun w' hw' => ?_⟩) hS ?_
        · go_simp
        simp only [Act.put, List.setIfInBounds_toArray, List.set_cons_zero, List.set_cons_succ]
        refine H_put (i := 9) 22 (v := .slice y.a y.r.length y.cap) rfl rfl (by kernel_rfl) (by kernel_rfl) (by kernel_rfl) (fun _ _ _ h => h) (Or.inl ⟨by rfl, fun w' hw' => ?_⟩) hS ?_
        · have c0 := HY.out w' hw'; go_simp
        simp only [Act.put, List.setIfInBounds_toArray, List.set_cons_zero, List.set_cons_succ]
        refine H_call (i := 10) 23 q (#[.slice x.a x.r.length x.cap, .slice y.a y.r.length y.cap] ++ cb) (R := Tells wr.drew (.int .i64 z)) (by kernel_rfl) rfl rfl (by rfl) (by go_simp) ?_ ?_
        · exact HC.out _ hS
        rintro e wa ⟨rfl, hwa⟩
        have Awa := hid (Touch.trans hS hwa)
        refine ⟨_, fun w' => Adds wa w', rfl, Touch.refl _ _, fun w' h => Awa.out.trans h, ?_⟩
        clear hS
        have hS : Adds wa wa := Touch.refl _ _
        simp only [Act.put, List.setIfInBounds_toArray, List.set_cons_zero, List.set_cons_succ]
        refine H_put (i := 11) 24 (v := .bool false) rfl rfl (by kernel_rfl) (by kernel_rfl) (by kernel_rfl) (fun _ _ _ h => h) (Or.inl ⟨by rfl, fun w' hw' => ?_⟩) hS ?_
        · go_simp
        simp only [Act.put, List.setIfInBounds_toArray, List.set_cons_zero, List.set_cons_succ]
        refine wpAnyH_done (by kernel_rfl) ?_ _
        go_wp2_with fail
        go_roundw
        case rel =>
          refine ⟨(j : Int), by first | rfl | go_num, by omega, by omega, fun k k1 k2 k3 => ?_, HI.out.2.trans Awa.out⟩
          by_cases e : k = i
          · subst e; rw [HZ.out]; exact decide_eq_false hz0
          · exact HI.out.1 k (by have := HL.out; omega) k2 k3
        case measure => have := HL.out; simp [intOf]; omega
    · go_wp2_with fail
      go_ret
      exact ⟨true, rfl, ⟨fun _ i j _ h2 h3 => srt_adj HO.out (n := l.length) (fun k k1 k2 => HI.out.1 k (by omega) k2 k1) _ i j rfl h2 h3, fun _ => rfl⟩, HI.out.2⟩
set_option maxHeartbeats 400000 in
/-- Whether rows stand in an order. -/
theorem rowSorted_any (ka : Option Addr) (kcap : Nat) (o : List (Int × Bool)) (a : Option Addr) (cap : Nat) (l : List Hd) (w : World) (hk : KAt w ka o) (hol : o.length ≤ 1000000) (hA : HAt w a l) (hl : l.length ≤ 1000000) (hr : ∀ x ∈ l, IsRow w x) :
    Calls Try.prog 10 #[.slice a l.length cap, .slice ka o.length kcap] w (PIs w (M.bycmp o) l) := by
  have hAl : Adds w (w.alloc (.cells #[.slice ka o.length kcap] 23)) := (Touch.refl _ w).alloc _
  have H := hid (isSorted_any 38 _ (M.bycmp o) (ord_of (M.cm_bycmp o)) a cap l (w.alloc (.cells #[.slice ka o.length kcap] 23)) (hA.adds hAl) hl (fun x hx => (hr x hx).adds hAl) (cmps_by w.heap.size ka kcap o _ (by rw [cellOf (heap_alloc_new w _) 0]; rfl) (hk.adds hAl) hol))
  clear hk hA hr hAl
  go_enter Try.func10, Try.ntmps10
  go_wp2_with (first | (go_at_call 21; refine (by_fun _ _ rfl _ _ _ rfl).mono ?_; rintro e w1 ⟨rfl, hw⟩; subst hw) | (go_at_call 24; refine H.out.mono ?_; rintro e w2 ⟨y, rfl, HR⟩))
  go_ret
  exact ⟨y, rfl, HR.out.1, ((Touch.refl _ w).alloc _).trans HR.out.2⟩
end Go.Proofs.Ytkkmbpcmkhikkaa
