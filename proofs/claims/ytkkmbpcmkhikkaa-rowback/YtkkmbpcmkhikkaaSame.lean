/- Two bags: the walk of RowSame. -/
import Derived.Test.YtkkmbpcmkhikkaaWorks
import Derived.Deep.CutRange
import Derived.Deep.DeepCutAuto
namespace Go.Proofs.Ytkkmbpcmkhikkaa
open Go.RowKit

/-- Rows that came in, whatever their number. -/
structure Ins22 (w : World) (a : Option Addr) (cap : Nat) (l : List Hd) : Prop where
  at_ : HAt w a l
  non : a = none → cap = 0
  len : l.length ≤ maxLen
  raw : ∀ x ∈ l, Raw w x
  rnon : ∀ x ∈ l, x.a = none → x.cap = 0
  oks : Oks l
theorem Raw.adds {w w' : World} {x : Hd} (h : Raw w x) (hA : Adds w w') : Raw w' x := ⟨h.at_.adds hA, h.len, h.txt⟩
theorem Ins22.adds {w w' : World} {a : Option Addr} {cap : Nat} {l : List Hd} (h : Ins22 w a cap l) (hA : Adds w w') : Ins22 w' a cap l := ⟨h.at_.adds hA, h.non, h.len, fun x hx => (h.raw x hx).adds hA, h.rnon, h.oks⟩
theorem Ins22.isl {w : World} {a : Option Addr} {cap : Nat} {l : List Hd} (h : Ins22 w a cap l) (hb : l.length ≤ 600 ∧ ∀ x ∈ l, x.r.length ≤ 600) : IsL w a cap l :=
  ⟨h.at_, h.non, by omega, fun x hx => ⟨(h.raw x hx).at_, by have := hb.2 x hx; omega, h.rnon x hx⟩, h.oks⟩
theorem great_of {w : World} {a : Option Addr} {cap : Nat} {l : List Hd} (h : Ins22 w a cap l) : Calls Try.prog 7 #[.slice a l.length cap] w (PGreat w l) := great_any a cap l w h.at_ h.len h.raw
theorem own_keep {w w' : World} {base e size n : Nat} {v : Value} {xs : List Value} (h : w.ownsRow base e size v n xs) (hA : Adds w w') : w'.ownsRow base e size v n xs := by
  refine ⟨h.1, ?_⟩
  rcases h.2 with h | ⟨g, cap, cur, rfl, hb, hg, h3⟩
  · exact .inl h
  · exact .inr ⟨g, cap, cur, rfl, hb, kept hA hg, h3⟩
theorem own_some {w : World} {base e size n : Nat} {v : Value} {xs : List Value} (h : w.ownsRow base e size v n xs) (hn : 0 < n) : ∃ g cap, v = .slice (some ⟨g, 0, none⟩) n cap ∧ base ≤ g := by
  rcases h.2 with ⟨_, h⟩ | ⟨g, cap, cur, rfl, hb, _⟩
  · omega
  · exact ⟨g, cap, rfl, hb⟩
theorem adds_lit {w w' : World} {o : Obj} {n c : Nat} (h : (w.alloc o).grownBy w' (Value.ownBlock (.slice (some ⟨w.heap.size, 0, none⟩) n c))) : Adds w w' :=
  Touch.grown ((Touch.refl _ w).alloc _) h (fun j hj hlt => by
    have : w.heap.size = j := by simpa [Value.ownBlock] using hj
    omega)
theorem SH_append (l m : List Hd) : SH l ++ SH m = SH (l ++ m) := by simp [SH]
theorem bool_of (P : Prop) : ∃ p : Bool, (p = true ↔ P) := by
  classical
  exact ⟨decide P, by simp⟩
theorem great_one {w' : World} {x : Hd} {g : Nat} (hw : w'.heap[g]? = some (.cells #[.slice x.a x.r.length x.cap] 30 (0, 0))) (h : Raw w' x) : Calls Try.prog 7 #[.slice (some ⟨g, 0, none⟩) 1 1] w' (PGreat w' [x]) :=
  great_any (some ⟨g, 0, none⟩) 1 [x] w' (hat_lit (l := [x]) hw) (by simp [maxLen]) (fun y hy => by
    obtain rfl : y = x := by simpa using hy
    exact h)
set_option maxRecDepth 100000 in
set_option maxHeartbeats 1000000 in
theorem same_any (aa ab : Option Addr) (ca cb : Nat) (la lb : List Hd) (x : Hd) (w : World) (hA : Ins22 w aa ca la) (hB : Ins22 w ab cb lb) (hX : Raw w x) (hXn : x.a = none → x.cap = 0) (hXo : ∀ v ∈ x.r, v.Ok) :
    Calls Try.prog 4 #[.slice aa la.length ca, .slice ab lb.length cb, .slice x.a x.r.length x.cap] w (Tells w (.bool true)) := by
  have HA := hid hA
  have HB := hid hB
  have HX := hid (And.intro hX (And.intro hXn hXo))
  clear hA hB hX hXn hXo
  go_enter Try.func4, Try.ntmps4
  go_upto_region 3 with (first | (go_at_call 6; refine (works_any _).mono ?_; rintro e w1 ⟨rfl, hA⟩; have A1 := hid hA; clear hA))
  go_upto_region 5 with (first
    | (go_at_call 7; have G2 := G2; refine (great_one (x := x) (heap_alloc_new w1 _) ((HX.out.1.adds A1.out).adds ((Touch.refl _ _).alloc _))).mono ?_; rintro e w2 ⟨y, rfl, hw, G3⟩; subst hw; cases y)
    | (go_at_call 7; have G1 := G1; refine (great_of (HB.out.adds A1.out)).mono ?_; rintro e w2 ⟨y, rfl, hw, G2⟩; obtain rfl := hw.symm; cases y)
    | (go_at_call 7; refine (great_of (HA.out.adds A1.out)).mono ?_; rintro e w2 ⟨y, rfl, hw, G1⟩; obtain rfl := hw.symm; cases y))
  all_goals try (go_ret; first | exact ⟨rfl, A1.out⟩ | exact ⟨rfl, A1.out.alloc _⟩)
  have hw2 : Adds w1 (w1.alloc (.cells #[.slice x.a x.r.length x.cap] 30)) := (Touch.refl _ w1).alloc _
  have LA := hid (((HA.out.adds A1.out).adds hw2).isl (G1.out trivial))
  have LB := hid (((HB.out.adds A1.out).adds hw2).isl (G2.out trivial))
  have RX := hid (show IsRow (w1.alloc (.cells #[.slice x.a x.r.length x.cap] 30)) x from ⟨((HX.out.1.adds A1.out).adds hw2).at_, by have := (G3.out trivial).2 x (by simp); omega, HX.out.2.1⟩)
  have A2 := hid (A1.out.trans hw2)
  have hla : la.length ≤ 600 := (G1.out trivial).1
  clear G1 G2 G3 hw2
  generalize w1.alloc (.cells #[.slice x.a x.r.length x.cap] 30) = w2 at *
  obtain ⟨p, hp⟩ : ∃ p : Bool, (p = true ↔ (bag la).Perm (bag lb)) := bool_of _
  obtain ⟨q, hq⟩ : ∃ p : Bool, (p = true ↔ M.Win (bag la) (bag lb)) := bool_of _
  obtain ⟨s, hs⟩ : ∃ p : Bool, (p = true ↔ M.Win (bag lb) (bag la)) := bool_of _
  have hp2 : (p = true ↔ (bag lb).Perm (bag la)) := hp.trans ⟨fun h => h.symm, fun h => h.symm⟩
  have KP := hid (fun (y : Bool) (h : y = true ↔ (bag la).Perm (bag lb)) => show y = p from Bool.eq_iff_iff.2 (h.trans hp.symm))
  have KP2 := hid (fun (y : Bool) (h : y = true ↔ (bag lb).Perm (bag la)) => show y = p from Bool.eq_iff_iff.2 (h.trans hp2.symm))
  have KQ := hid (fun (y : Bool) (h : y = true ↔ M.Win (bag la) (bag lb)) => show y = q from Bool.eq_iff_iff.2 (h.trans hq.symm))
  have KS := hid (fun (y : Bool) (h : y = true ↔ M.Win (bag lb) (bag la)) => show y = s from Bool.eq_iff_iff.2 (h.trans hs.symm))
  have hpqs : p = (q && s) := by
    apply Bool.eq_iff_iff.2
    rw [hp, Bool.and_eq_true, hq, hs]
    exact ⟨fun h => ⟨M.win_of_perm h, M.win_of_perm h.symm⟩, fun h => M.win_both h.1 h.2⟩
  clear hp hp2 hq hs
  go_cut [48] from 22 to 48 (fun t wx => t = .bool false ∧ Hid (Adds w2 wx))
  case first =>
   go_wp2_with (first
    | (go_at_call 9; have E5 := E5; refine (bag_any (LA.out.adds E5.out) (LA.out.adds E5.out)).mono ?_; rintro e wf ⟨y, rfl, HY⟩; obtain rfl : y = true := HY.out.1.2 (.refl _); have E6 := hid (E5.out.trans HY.out.2); clear HY)
    | (go_at_call 9; have E4 := E4; refine (bag_any (LA.out.adds E4.out) (LA.out.adds E4.out)).mono ?_; rintro e wf ⟨y, rfl, HY⟩; obtain rfl : y = true := HY.out.1.2 (.refl _); have E6 := hid (E4.out.trans HY.out.2); clear HY)
    | (go_at_call 9; have E2 := E2; refine (bag_any (LA.out.adds E2.out) (LB.out.adds E2.out)).mono ?_; rintro e wc ⟨y, rfl, HY⟩; obtain rfl := (KP.out y HY.out.1).symm; have E3 := hid (E2.out.trans HY.out.2); clear HY)
    | (go_at_call 9; have E1 := E1; refine (bag_any (LB.out.adds E1.out) (LA.out.adds E1.out)).mono ?_; rintro e wb ⟨y, rfl, HY⟩; obtain rfl := (KP2.out y HY.out.1).symm; have E2 := hid (E1.out.trans HY.out.2); clear HY)
    | (go_at_call 9; refine (bag_any LA.out LB.out).mono ?_; rintro e wa ⟨y, rfl, HY⟩; obtain rfl := (KP.out y HY.out.1).symm; have E1 := hid HY.out.2; clear HY)
    | (go_at_call 12; have E4 := E4; refine (rowWithin_any (LB.out.adds E4.out) (LA.out.adds E4.out)).mono ?_; rintro e we ⟨y, rfl, HY⟩; obtain rfl := (KS.out y HY.out.1).symm; have E5 := hid (E4.out.trans HY.out.2); clear HY)
    | (go_at_call 12; refine (rowWithin_any (LA.out.adds E3.out) (LB.out.adds E3.out)).mono ?_; rintro e wd ⟨y, rfl, HY⟩; obtain rfl := (KQ.out y HY.out.1).symm; have E4 := hid (E3.out.trans HY.out.2); clear HY; cases q <;> cases s <;> simp only [Bool.and_true, Bool.and_false] at hpqs <;> subst hpqs))
   all_goals go_meet
   all_goals exact ⟨rfl, E6.out⟩
  case rest =>
    obtain ⟨rfl, hc⟩ := hcut
    have LA5 := hid (LA.out.adds hc.out)
    have RX5 := hid (RX.out.adds hc.out)
    have A5 := hid (A2.out.trans hc.out)
    clear hc LA LB RX A2 KP KP2 KQ KS hpqs
    generalize wc = w5 at *
    go_upto_region 8 with (first
      | (at_builtin; have Q1 := Q1
         refine append_r rfl _ _ rfl w5.heap.size _ la.length (SH la) rfl (own_keep Q1.out.1 ((Touch.refl _ w6).alloc _)) (some ⟨w6.heap.size, 0, none⟩) [x] 1 rfl (fun e => (by cases e)) (hat_lit (l := [x]) (heap_alloc_new w6 _)).cells (by simp; omega) (by have := Q1.out.2.size; simp only [World.size_alloc]; omega) ?_
         intro v2 w7 h1 h2
         obtain ⟨g2, cap2, hv2, hg2⟩ := own_some h1 (by simp)
         have Q2 := hid (And.intro h1 (show Adds w5 w7 from Touch.grown (Q1.out.2.alloc _) h2 (fun j hj hlt => by have := (Q1.out.1.lt j hj).1; omega)))
         subst hv2; clear h1 h2 hg2)
      | (at_builtin; refine append_r rfl _ _ rfl w5.heap.size _ 0 [] rfl (World.ownsRow_lit (base := w5.heap.size) (e := 30) (size := 1) w5 #[] 0 (Nat.le_refl _) (by simp [maxLen]) rfl) aa la ca rfl LA5.out.non ((LA5.out.at_.adds ((Touch.refl _ w5).alloc _)).cells) (by omega) (by simp) ?_
         intro v1 w6 h1 h2
         have Q1 := hid (show w6.ownsRow w5.heap.size 30 1 v1 la.length (SH la) ∧ Adds w5 w6 from ⟨by simpa using h1, adds_lit h2⟩)
         clear h1 h2))
    go_upto_region 9 with (first
      | (at_builtin; refine append_r rfl _ _ rfl w7.heap.size _ 1 (SH [x]) rfl (World.ownsRow_lit (base := w7.heap.size) (e := 30) (size := 1) w7 #[.slice x.a x.r.length x.cap] 1 (Nat.le_refl _) (by simp [maxLen]) rfl) aa la ca rfl LA5.out.non (((LA5.out.at_.adds Q2.out.2).adds ((Touch.refl _ w7).alloc _)).cells) (by omega) (by simp) ?_
         intro v3 w8 h1 h2
         obtain ⟨g3, cap3, hv3, hg3⟩ := own_some h1 (by omega)
         have Q3 := hid (And.intro h1 (show Adds w7 w8 from adds_lit h2))
         subst hv3; clear h1 h2 hg3))
    have rows : ∀ w', Adds w5 w' → ∀ y ∈ la ++ [x], IsRow w' y := fun w' hA y hy => by
      rcases List.mem_append.1 hy with h | h
      · exact (LA5.out.rows y h).adds hA
      · obtain rfl : y = x := by simpa using h
        exact RX5.out.adds hA
    have oks : Oks (la ++ [x]) := fun y hy => by
      rcases List.mem_append.1 hy with h | h
      · exact LA5.out.oks y h
      · obtain rfl : y = x := by simpa using h
        exact HX.out.2.2
    have A8 := hid (show Adds w5 w8 from Q2.out.2.trans Q3.out.2)
    have LA8 := hid (LA5.out.adds A8.out)
    have LM := hid (show IsL w8 (some ⟨g2, 0, none⟩) cap2 (la ++ [x]) from ⟨by
      have := CAt.own (own_keep Q2.out.1 Q3.out.2)
      rw [SH_append] at this
      exact this.rows, fun e => (by cases e), by simp; omega, rows w8 A8.out, oks⟩)
    have LF := hid (show IsL w8 (some ⟨g3, 0, none⟩) cap3 ([x] ++ la) from ⟨by
      have := CAt.own Q3.out.1
      rw [SH_append] at this
      exact this.rows, fun e => (by cases e), by simp; omega, fun y hy => rows w8 A8.out y (by simpa [or_comm] using hy), fun y hy => oks y (by simpa [or_comm] using hy)⟩)
    have HN := hid (show (¬ (bag la).Perm (bag (la ++ [x]))) ∧ M.Win (bag la) (bag (la ++ [x])) ∧ (¬ M.Win (bag (la ++ [x])) (bag la)) ∧ (bag ([x] ++ la)).Perm (bag (la ++ [x])) from
      ⟨fun h => by have := h.length_eq; simp only [bag, List.length_map, List.length_append, List.length_cons, List.length_nil] at this; omega, ⟨[prr x], by simp [bag]⟩, fun h => by have := M.win_len h; simp only [bag, List.length_map, List.length_append, List.length_cons, List.length_nil] at this; omega, by
        unfold bag
        rw [List.map_append, List.map_append]
        exact List.perm_append_comm⟩)
    have AZ := hid (A5.out.trans A8.out)
    clear rows oks Q1 Q2 Q3 LA5 RX5 A5 A8
    go_wp2_with (first
      | (go_at_call 9; have F3 := F3; refine (bag_at (by simp; omega) (by simp) (LF.out.adds F3.out) (LM.out.adds F3.out)).mono ?_; rintro e wd ⟨y, rfl, HY⟩; obtain rfl : y = true := HY.out.1.2 HN.out.2.2.2; have F4 := hid (F3.out.trans HY.out.2); clear HY)
      | (go_at_call 9; refine (bag_at rfl (by simp) LA8.out LM.out).mono ?_; rintro e wa ⟨y, rfl, HY⟩
         obtain rfl : y = false := by
           cases y with
           | false => rfl
           | true => exact absurd (HY.out.1.1 rfl) HN.out.1
         have F1 := hid HY.out.2; clear HY)
      | (go_at_call 12; have F2 := F2; refine (within_at (by simp) rfl (LM.out.adds F2.out) (LA8.out.adds F2.out)).mono ?_; rintro e wc ⟨y, rfl, HY⟩
         obtain rfl : y = false := by
           cases y with
           | false => rfl
           | true => exact absurd (HY.out.1.1 rfl) HN.out.2.2.1
         have F3 := hid (F2.out.trans HY.out.2); clear HY)
      | (go_at_call 12; refine (within_at rfl (by simp) (LA8.out.adds F1.out) (LM.out.adds F1.out)).mono ?_; rintro e wb ⟨y, rfl, HY⟩; obtain rfl : y = true := HY.out.1.2 HN.out.2.1; have F2 := hid (F1.out.trans HY.out.2); clear HY))
    go_ret
    exact ⟨rfl, AZ.out.trans F4.out⟩
end Go.Proofs.Ytkkmbpcmkhikkaa
