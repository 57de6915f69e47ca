/- Texts put together: KLeaf, KCell, KRow, GQ5, GFormat, GForm, GPw, FR1. -/
import Derived.Test.YtjlennpoaefllaaGreatDoorQ36
import Derived.Test.YtjlennpoaefllaaGreatDoorQ22
import Derived.Test.YtjlennpoaefllaaGreatDoorQ26
import Derived.Test.YtjlennpoaefllaaGreatDoorQ31
import Derived.Test.YtjlennpoaefllaaGreatDoorQ35
import Derived.Test.YtjlennpoaefllaaGreatDoorQ32
/- How many pages; how many bytes they have; the number that comes next; whether there is a space. -/
namespace Go.Proofs.YtjlennpoaefllaaGreatDoor
open Go.RowKit

end Go.Proofs.YtjlennpoaefllaaGreatDoor

/- The cell of a blob's page. -/
namespace Go.Proofs.YtjlennpoaefllaaGreatDoor
open Go.RowKit

/-- What onlyCell leaves: a cell in memory of its own. -/
def PXc (w0 : World) (X : List (Nat × Obj)) (p dp : Nat) (s : F.Po) (D : dSt) (n kk z : Nat) (x : List UInt8) (e : Ending) (w' : World) : Prop := ∃ a cap, e = .returned (.tuple #[.slice a x.length cap, .int .i64 (z : Int)]) ∧ Hid (At w' a x ∧ x.length ≤ cap ∧ (a = none → cap = 0) ∧ LpX w0 w' X p dp s D n kk ∧ ∀ b o, a = some ⟨b, o, none⟩ → ∀ x ∈ X, x.1 ≠ b)
theorem PXc.no {w0 w' : World} {X : List (Nat × Obj)} {p dp : Nat} {s : F.Po} {D : dSt} {n kk z : Nat} (h : LpX w0 w' X p dp s D n kk) : PXc w0 X p dp s D n kk z [] (.returned (.tuple #[.slice none 0 0, .int .i64 (z : Int)])) w' := ⟨none, 0, rfl, At.nil _ _, Nat.le_refl _, fun _ => rfl, h, fun b o e => by cases e⟩
end Go.Proofs.YtjlennpoaefllaaGreatDoor

/- Rows of one's own among the blocks that are nobody's. -/
namespace Go.Proofs.YtjlennpoaefllaaGreatDoor
open Go.RowKit

set_option maxRecDepth 100000 in
/-- A row that lies among the blocks that are nobody's: its block stays one of them. -/
theorem rowBk_same {w0 w w' : World} {X Y : List (Nat × Obj)} {p dp : Nat} {s : F.Po} {D : dSt} {n k B e m : Nat} {v : Value} {xs : List Value} (h' : LpX w0 w' Y p dp s D n k) (hr : w.ownsRow B e 1 v m xs) (hY : ∀ y ∈ rowBk w v, y ∈ Y) (_ : X = X) : rowBk w' v = rowBk w v := by
  rcases hr.2 with ⟨rfl, _⟩ | ⟨g, cap, cur, rfl, hb, hg, rest⟩
  · rfl
  · have h1 : (g, Obj.cells cur e (0, 0)) ∈ rowBk w (.slice (some ⟨g, 0, none⟩) m cap) := mem_rowBk.2 ⟨rfl, hg⟩
    have h2 := h'.at _ (hY _ h1)
    unfold rowBk
    show (match w'.heap[g]? with
      | some o => [(g, o)]
      | none => []) = (match w.heap[g]? with
      | some o => [(g, o)]
      | none => [])
    rw [h2, hg]
/-- A row's block is in the list. -/
theorem row_inX {w : World} {X : List (Nat × Obj)} {B e m : Nat} {v : Value} {xs : List Value} (hr : w.ownsRow B e 1 v m xs) (hX : ∀ y ∈ rowBk w v, y ∈ X) : ∀ j, v.ownBlock = some j → ∃ x ∈ X, x.1 = j := fun j hj => by
  obtain ⟨x, hx, e⟩ := row_in hr hj
  exact ⟨x, hX x hx, e⟩
set_option maxRecDepth 100000 in
/-- The row has grown, or another one has come in its place. -/
theorem LpX.grow {w0 w w' : World} {X : List (Nat × Obj)} {p dp : Nat} {s : F.Po} {D : dSt} {n k e m m' : Nat} {v v' : Value} {xs xs' : List Value} (h : LpX w0 w (rowBk w v ++ X) p dp s D n k) (hr : w.ownsRow w0.heap.size e 1 v m xs) (hT : Touch (fun j => v.ownBlock = some j) w w') (hr' : w'.ownsRow w0.heap.size e 1 v' m' xs') (ho : ∀ j, v'.ownBlock = some j → v.ownBlock = some j ∨ w.heap.size ≤ j) (hX : ∀ x ∈ X, v.ownBlock ≠ some x.1) : LpX w0 w' (rowBk w' v' ++ X) p dp s D n k := by
  have _ := hr'
  refine h.turns hT (fun j hj => ?_) (fun j hj => (row_low hr hj).1) (fun y hy => ?_)
  · obtain ⟨x, hx, e⟩ := row_in hr hj
    exact ⟨x, List.mem_append_left _ hx, e⟩
  · rcases List.mem_append.1 hy with hy | hy
    · obtain ⟨e1, e2⟩ := mem_rowBk.1 hy
      refine ⟨?_, e2⟩
      rcases ho _ e1 with c | c
      · obtain ⟨x, hx, e⟩ := row_in hr c
        exact .inl ⟨x, List.mem_append_left _ hx, e⟩
      · exact .inr c
    · exact ⟨.inl ⟨y, List.mem_append_right _ hy, rfl⟩, by rw [hT.block y.1 (Array.getElem?_eq_some_iff.1 (h.at y (List.mem_append_right _ hy))).1 (hX y hy)]; exact h.at y (List.mem_append_right _ hy)⟩
set_option maxRecDepth 100000 in
/-- Numbers in a row, grown by one. -/
theorem I_snoc (zs : List Int) (z : Int) : I (zs ++ [z]) = I zs ++ [.int .i64 z] := by simp [I]
set_option maxRecDepth 100000 in
/-- A number is put behind numbers of one's own; where these lie then. -/
theorem append_ki {w : World} {ops : Array Oper} {rest : List Oper} {o : Oper} {act : Act} {Q : Exit → Act → World → Prop} (hgd : o.guard = none) (s x : Operand)
    (ho : o.op = .call { callee := .builtin .append, args := #[s, x], argTypes := #[64, 64] }) (B : Nat) (v : Value) (n : Nat) (xs : List Value) (hs : act.eval s = v) (hown : w.ownsRow B 3 1 v n xs)
    (g : Nat) (z : Int) (hx : act.eval x = .slice (some ⟨g, 0, none⟩) 1 1) (hc : w.cell? ⟨g, 0, none⟩ = some (.int .i64 z)) (hlen : n ≤ 10000000) (hB : B ≤ w.heap.size)
    (h : ∀ v' w', w'.ownsRow B 3 1 v' (n + 1) (xs ++ [.int .i64 z]) → Touch (fun j => v.ownBlock = some j) w w' → (∀ j, v'.ownBlock = some j → v.ownBlock = some j ∨ w.heap.size ≤ j) → wpList Tryz.prog ops Q rest (act.put o.dst v') w') : wpList Tryz.prog ops Q (o :: rest) act w := by
  obtain ⟨i0, hi, hz0, hz1, hz2⟩ := info3
  refine wpList_append_own_at _ hgd s x 64 ho B 3 i0 (.int .i64 0) 1 8 Tryz.underlying64 hi hz0 hz1 hz2 rfl (by decide) v n xs hs hown ⟨g, 0, none⟩ 1 1 [.int .i64 z] hx rfl ?_ (fun y hy => by rw [List.mem_singleton.1 hy]; rfl) (by unfold maxLen; omega) (by omega) hB (fun v' w' h1 h2 _ h4 => h v' w' h1 (grown_touch h2) (fun j hj => ?_))
  · intro j y hj
    match j, hj with
    | 0, hj =>
      obtain rfl : Value.int .i64 z = y := by simpa using hj
      rw [Addr.add_mid]; exact hc
  · rcases h4 with c | c
    · rw [c] at hj; exact .inl hj
    · rw [c] at hj; cases hj; exact .inr (Nat.le_refl _)
/-- Numbers of one's own, among the blocks that are nobody's. -/
structure Ns (w0 w : World) (X : List (Nat × Obj)) (p dp : Nat) (s : F.Po) (D : dSt) (n k : Nat) (v : Value) (zs : List Int) : Prop where
  lpx : LpX w0 w (rowBk w v ++ X) p dp s D n k
  row : w.ownsRow w0.heap.size 3 1 v zs.length (I zs)
  apart : ∀ x ∈ X, v.ownBlock ≠ some x.1
theorem Ns.x {w0 w : World} {X : List (Nat × Obj)} {p dp : Nat} {s : F.Po} {D : dSt} {n k : Nat} {v : Value} {zs : List Int} (h : Ns w0 w X p dp s D n k v zs) : LpX w0 w X p dp s D n k := h.lpx.fewer (fun _ hy => List.mem_append_right _ hy)
theorem Ns.le {w0 w : World} {X : List (Nat × Obj)} {p dp : Nat} {s : F.Po} {D : dSt} {n n' k : Nat} {v : Value} {zs : List Int} (h : Ns w0 w X p dp s D n k v zs) (hn : n ≤ n') : Ns w0 w X p dp s D n' k v zs := ⟨h.lpx.le hn, h.row, h.apart⟩
set_option maxRecDepth 100000 in
/-- Another call has been made. -/
theorem Ns.next {w0 w w' : World} {X : List (Nat × Obj)} {p dp : Nat} {s s' : F.Po} {D : dSt} {n n' k : Nat} {v : Value} {zs : List Int} (h : Ns w0 w X p dp s D n k v zs) (h' : LpX w0 w' (rowBk w v ++ X) p dp s' D n' k) : Ns w0 w' X p dp s' D n' k v zs := by
  have e := rowBk_same (X := X) h' h.row (fun y hy => List.mem_append_left _ hy) rfl
  exact ⟨by rw [e]; exact h', row_keepX h.lpx h' h.row (row_inX h.row (fun y hy => List.mem_append_left _ hy)), h.apart⟩
theorem Ns.adds {w0 w w' : World} {X : List (Nat × Obj)} {p dp : Nat} {s : F.Po} {D : dSt} {n k : Nat} {v : Value} {zs : List Int} (h : Ns w0 w X p dp s D n k v zs) (hA : Adds w w') : Ns w0 w' X p dp s D n k v zs := h.next (h.lpx.add hA)
end Go.Proofs.YtjlennpoaefllaaGreatDoor

/- The reference's Free, Taken of one map. -/
namespace Go.Proofs.YtjlennpoaefllaaGreatDoor
open Go.RowKit

def PFz (w0 : World) (X : List (Nat × Obj)) (p d q r : Nat) (s : F.Po) (D D' : dSt) (n k : Nat) (R : Nat × F.Po) (e : Ending) (w' : World) : Prop := e = .returned (.int .i64 (R.1 : Int)) ∧ Hid (PwE w0 w' X p d q r s R.2 D D' n k)
set_option maxRecDepth 100000 in
set_option maxHeartbeats 4000000 in
theorem rfreeZ {w0 w : World} {X : List (Nat × Obj)} {p d q r : Nat} {s s' : F.Po} {D D' : dSt} {n k k0 : Nat} (h : PwE w0 w X p d q r s s' D D' n k) (hdk : DOk D' k0) (hk9 : k0 ≤ 900) (hok : POk s' D') (hg : F.Good s') (hmo : s'.mo ≤ 256) (hnl : F.Nil s') {c : Nat} (hct : s'.ct = (c : Int)) (hc1 : 1 ≤ c) (hc2 : c ≤ 1920) (no : Int) :
    Calls Tryz.prog 43 #[Ptr q, .int .i64 no] w (PFz w0 X p d q r s D D' n k (G.freeG D' s' no)) := by
  have hcn : G.cnt s' = c := by unfold G.cnt; rw [hct]; omega
  have HG := rgetZ h hdk hk9 hok hg hct hc1 hc2
  have HM := hid (fun w1 => rmaps1 w1 hc1 hc2)
  have HC := h.cq hct
  by_cases hinv : no < 1 ∨ (c : Int) ≤ no
  · have hR : G.freeG D' s' no = (2, s') := free_inv (by rw [hcn, G.maps1 hc1 hc2, hct]; exact hinv)
    rw [hR]
    have H0 := hid h
    clear hR HG h hdk hk9 hok hg hmo hnl hcn hct
    unfold Ptr at *
    by_cases h1 : no < 1
    · clear hinv
      go_enter Tryz.func43, Tryz.ntmps43
      go_wp2_with (go_at_call 39; refine (HM.out _).mono ?_; rintro e _ ⟨rfl, hw⟩; rw [hw]; clear hw)
      go_ret
      exact ⟨rfl, H0.out⟩
    · have h2 : (c : Int) ≤ no := by omega
      clear hinv
      go_enter Tryz.func43, Tryz.ntmps43
      go_wp2_with (go_at_call 39; refine (HM.out _).mono ?_; rintro e _ ⟨rfl, hw⟩; rw [hw]; clear hw)
      go_ret
      exact ⟨rfl, H0.out⟩
  · obtain ⟨m, rfl⟩ : ∃ m : Nat, no = (m : Int) := ⟨no.toNat, by omega⟩
    have hm1 : ¬ (m : Int) < 1 := by omega
    have hm2 : ¬ (c : Int) ≤ (m : Int) := by omega
    have hmc : m < c := by omega
    have hmq : (m : Int) / 1920 = 0 := by omega
    have hmr : (m : Int) % 1920 = (m : Int) := by omega
    have hm0 : (0 : Int) ≤ (m : Int) := by omega
    have hmcz : (m : Int) < (c : Int) := by omega
    have hR0 : G.freeG D' s' (m : Int) = (if G.mapE s' D' 0 = 0 then (if G.bit (G.mapB s' D' 0) m then (F.putE (F.getS s' D' ((0 : Nat) : Int)) ((0 : Nat) : Int) (G.pg 0 (G.flip (G.mapB s' D' 0) m)), F.putS (F.getS s' D' ((0 : Nat) : Int)) ((0 : Nat) : Int) (G.pg 0 (G.flip (G.mapB s' D' 0) m))) else (40, F.getS s' D' ((0 : Nat) : Int))) else (G.mapE s' D' 0, F.getS s' D' ((0 : Nat) : Int))) := by
      unfold G.freeG
      rw [if_neg (by rw [hcn, G.maps1 hc1 hc2, hct]; exact hinv), Int.toNat_natCast, show m / 1920 = 0 by omega, show m % 1920 = m by omega]
    by_cases hz : G.mapE s' D' 0 = 0
    · rw [if_pos hz] at hR0
      have hG := gt_of hz hg hmo hnl hct
      obtain ⟨S1, hS1⟩ : ∃ S1, S1 = F.getS s' D' ((0 : Nat) : Int) := ⟨_, rfl⟩
      obtain ⟨x, hx⟩ : ∃ x, x = G.mapB s' D' 0 := ⟨_, rfl⟩
      rw [← hS1, ← hx] at hG hR0
      rw [pgz_ok hz, ← hS1, ← hx] at HG
      have HG := hid HG
      rw [hR0]
      cases hb : G.bit x m with
      | false =>
        rw [if_neg (by decide)]
        have HB := hid hb
        have HMC := hid hmc
        clear hR0 hz hG hS1 hx h hdk hk9 hok hg hmo hnl hcn hct hinv hb hmc
        unfold Ptr at *
        go_enter Tryz.func43, Tryz.ntmps43
        go_wp2_with (first
          | (go_at_call 39; refine (HM.out _).mono ?_; rintro e _ ⟨rfl, hw⟩; rw [hw]; clear hw)
          | (go_at_call 80; refine HG.out.mono ?_; rintro e w1 ⟨g, cap, cur, rfl, H1⟩
             have ci : w1.cell? ⟨g, m, none⟩ = some (.bool false) := by rw [← HB.out]; exact bl_cell (H1.out.1.other _ List.mem_cons_self) H1.out.2.1 HMC.out))
        go_ret
        exact ⟨rfl, H1.out.1.fewer (fun y hy => List.mem_cons_of_mem _ hy)⟩
      | true =>
        rw [if_pos rfl]
        obtain ⟨S2, hS2⟩ : ∃ S2, S2 = F.putS S1 ((0 : Nat) : Int) (G.pg 0 (G.flip x m)) := ⟨_, rfl⟩
        obtain ⟨z, hz2⟩ : ∃ z, z = F.putE S1 ((0 : Nat) : Int) (G.pg 0 (G.flip x m)) := ⟨_, rfl⟩
        have HP := hid (fun (w1 : World) (g cap : Nat) (cur : Array Value) (h1 : PwE w0 w1 ((g, .cells cur 4 (0, 0)) :: X) p d q r s S1 D D' n k) (hcur : cur.toList.take c = BL c (fun j => if j = m then false else G.bit x j)) => show Calls Tryz.prog 41 #[Ptr q, .int .i64 0, .slice (some ⟨g, 0, none⟩) c cap] w1 (PPw w0 X p d q r s S2 D D' n k (.int .i64 (z : Int))) by
          rw [hS2, hz2]
          exact rputX hG hc1 hc2 h1 hmc false (by rw [hb]; rfl) hcur cap)
        rw [← hS2, ← hz2]
        have HB := hid hb
        have HMC := hid hmc
        clear hR0 hz hG hS1 hx h hdk hk9 hok hg hmo hnl hcn hct hinv hb hmc hS2 hz2
        unfold Ptr at *
        go_enter Tryz.func43, Tryz.ntmps43
        go_wp2_with (first
          | (go_at_call 39; refine (HM.out _).mono ?_; rintro e _ ⟨rfl, hw⟩; rw [hw]; clear hw)
          | (go_at_call 80; refine HG.out.mono ?_; rintro e w1 ⟨g, cap, cur, rfl, H1⟩
             have ci : w1.cell? ⟨g, m, none⟩ = some (.bool true) := by rw [← HB.out]; exact bl_cell (H1.out.1.other _ List.mem_cons_self) H1.out.2.1 HMC.out
             have hfz : w1.frozen? ⟨g, m, none⟩ = false := by simp [World.frozen?, H1.out.1.other _ List.mem_cons_self]
             obtain ⟨cur', hP', hc'⟩ := H1.out.1.truth H1.out.2.2.1 H1.out.2.2.2 (show cur.toList.take c = BL c (G.bit x) from H1.out.2.1) m false
             have HPP := hid (HP.out _ g cap cur' hP' hc')
             clear hP' hc')
          | (go_at_call 41; refine HPP.out.mono ?_; rintro e w5 ⟨rfl, H5⟩))
        go_ret
        exact ⟨rfl, H5.out⟩
    · rw [if_neg hz] at hR0
      rw [hR0]
      rw [pgz_no hz] at HG
      have HG := hid HG
      have hz1 : ((G.mapE s' D' 0 : Int) != 0) = true := by simp; omega
      have hz2 : ¬ (G.mapE s' D' 0 : Int) = 0 := by omega
      generalize G.mapE s' D' 0 = z at *
      generalize F.getS s' D' ((0 : Nat) : Int) = S1 at *
      clear hR0 hz hcn h hdk hk9 hok hg hmo hnl hct hinv hmc
      unfold Ptr at *
      go_enter Tryz.func43, Tryz.ntmps43
      go_wp2_with (first
        | (go_at_call 39; refine (HM.out _).mono ?_; rintro e _ ⟨rfl, hw⟩; rw [hw]; clear hw)
        | (go_at_call 80; refine HG.out.mono ?_; rintro e w1 ⟨rfl, H1⟩))
      go_ret
      exact ⟨rfl, H1.out⟩
set_option maxRecDepth 100000 in
theorem nums_snoc (f : Nat → Bool) (i : Nat) : G.nums (i + 1) f = if f i then G.nums i f ++ [(i : Int)] else G.nums i f := by
  unfold G.nums
  rw [List.range_succ, List.filter_append, List.map_append]
  cases h : f i <;> simp [h]
set_option maxRecDepth 100000 in
theorem nums_le (f : Nat → Bool) (i : Nat) : (G.nums i f).length ≤ i := by
  unfold G.nums
  rw [List.length_map]
  exact Nat.le_trans (List.length_filter_le _ _) (by rw [List.length_range]; exact Nat.le_refl _)
/-- What Taken of the reference leaves. -/
def PTz (w0 : World) (X : List (Nat × Obj)) (p d q r : Nat) (s : F.Po) (D D' : dSt) (n k : Nat) (R : List Int × Nat × F.Po) (e : Ending) (w' : World) : Prop := ∃ a cap, e = .returned (.tuple #[.slice a R.1.length cap, .int .i64 (R.2.1 : Int)]) ∧ Hid (NAt w' a R.1 ∧ PwE w0 w' X p d q r s R.2.2 D D' n k)
set_option maxRecDepth 100000 in
set_option maxHeartbeats 4000000 in
theorem rtakenZ {w0 w : World} {X : List (Nat × Obj)} {p d q r : Nat} {s s' : F.Po} {D D' : dSt} {n k k0 : Nat} (h : PwE w0 w X p d q r s s' D D' n k) (hdk : DOk D' k0) (hk9 : k0 ≤ 900) (hok : POk s' D') (hg : F.Good s') (hmo : s'.mo ≤ 256) (hnl : F.Nil s') {c : Nat} (hct : s'.ct = (c : Int)) (hc1 : 1 ≤ c) (hc2 : c ≤ 1920) :
    Calls Tryz.prog 56 #[Ptr q] w (PTz w0 X p d q r s D D' n k (G.takenG D' (G.maps (G.cnt s')) 0 s' [])) := by
  have hcn : G.cnt s' = c := by unfold G.cnt; rw [hct]; omega
  have HG := rgetZ h hdk hk9 hok hg hct hc1 hc2
  have HM := hid (fun w1 => rmaps1 w1 hc1 hc2)
  have HC := h.cq hct
  rw [hcn, G.maps1 hc1 hc2]
  by_cases hz : G.mapE s' D' 0 = 0
  · have hG := gt_of hz hg hmo hnl hct
    obtain ⟨S1, hS1⟩ : ∃ S1, S1 = F.getS s' D' ((0 : Nat) : Int) := ⟨_, rfl⟩
    obtain ⟨x, hx⟩ : ∃ x, x = G.mapB s' D' 0 := ⟨_, rfl⟩
    rw [← hS1, ← hx] at hG
    rw [pgz_ok hz, ← hS1, ← hx] at HG
    have HG := hid HG
    have HGt := hid hG
    have HN := hid (And.intro hc1 hc2)
    have hR : G.takenG D' 1 0 s' [] = (G.nums c (G.bit x), 0, S1) := by
      rw [tk_next (r := 0) (k := 0) hz, ← hS1, ← hx, (may_cell hG.may).taken hc2]
      rfl
    rw [hR]
    clear hR hz hG hS1 hx hcn h hdk hk9 hok hg hmo hnl hct hc1
    have hc9 : (c : Int) ≤ 1920 := by omega
    unfold Ptr at *
    go_enter Tryz.func56, Tryz.ntmps56
    go_wp2_with fail
    go_loopw [4, 5] (fun v kv wr => ∃ j : Nat, kv = .int .i64 (j : Int) ∧ j ≤ 1 ∧ Hid ((j = 0 ∧ v = .slice none 0 0 ∧ wr = w) ∨ (j = 1 ∧ ∃ B, wr.ownsRow B 3 1 v (G.nums c (G.bit x)).length (I (G.nums c (G.bit x))) ∧ PwE w0 wr X p d q r s S1 D D' n k))) (fun _ kv _ => 1 - (intOf kv).toNat)
    case atStart => exact ⟨0, rfl, by decide, .inl ⟨rfl, rfl, rfl⟩⟩
    case round =>
      obtain ⟨j, rfl, hj, HI⟩ := hrel
      rcases HI.out with ⟨rfl, rfl, hw⟩ | ⟨rfl, B, hrow, h2⟩
      · have hw := hw.symm
        subst hw
        clear HI
        go_wp2_with (first
          | (go_at_call 39; refine (HM.out _).mono ?_; rintro e _ ⟨rfl, hw⟩; rw [hw]; clear hw)
          | (go_at_call 80; refine HG.out.mono ?_; rintro e w1 ⟨g, cap, cur, rfl, H1⟩))
        go_loopw [4, 8] (fun v iv w' => ∃ i : Nat, iv = .int .i64 (i : Int) ∧ i ≤ c ∧ Hid (w'.ownsRow w1.heap.size 3 1 v (G.nums i (G.bit x)).length (I (G.nums i (G.bit x))) ∧ Adds w1 w')) (fun _ iv _ => c - (intOf iv).toNat)
        case atStart => exact ⟨0, rfl, Nat.zero_le _, World.ownsRow_nil _ _ _ _, Touch.refl _ _⟩
        case round =>
          obtain ⟨i, rfl, hi, HJ⟩ := hrel
          by_cases hlt : i < c
          · have hltz : (i : Int) < (c : Int) := by omega
            have ci : wr.cell? ⟨g, i, none⟩ = some (.bool (G.bit x i)) := below_adds HJ.out.2 (bl_cell (H1.out.1.other _ List.mem_cons_self) H1.out.2.1 hlt)
            cases hb : G.bit x i with
            | false =>
              rw [hb] at ci
              have HB := hid hb
              clear hb
              go_wp2_with fail
              go_roundw
              case rel => exact ⟨i + 1, by go_num, by omega, by rw [nums_snoc, HB.out]; exact HJ.out.1, HJ.out.2⟩
              case measure => simp [intOf]; omega
            | true =>
              rw [hb] at ci
              have HB := hid hb
              clear hb
              go_wp2_with (at_builtin; refine append_ki rfl _ _ rfl w1.heap.size _ _ (I (G.nums i (G.bit x))) rfl (row_keep HJ.out.1 ((Touch.refl (fun _ => False) wr).alloc _) (fun _ _ => id)) wr.heap.size (i : Int) rfl (cellOf (heap_alloc_new wr _) 0) (by have := nums_le (G.bit x) i; omega) (by have := HJ.out.2.size; simp; omega) ?_; intro v' w3 hr3 hT3 ho3; have H3 := hid (And.intro hr3 hT3); clear hr3 hT3 ho3)
              go_roundw
              case rel =>
                refine ⟨i + 1, by go_num, by omega, ?_, (HJ.out.2.alloc _).then H3.out.2 (fun j hj c => by have := (row_low HJ.out.1 c).1; omega)⟩
                rw [nums_snoc, HB.out, if_pos rfl, I_snoc, List.length_append]
                exact H3.out.1
              case measure => simp [intOf]; omega
          · obtain rfl : i = c := by omega
            have hltz : ¬ (i : Int) < (i : Int) := by omega
            go_wp2_with fail
            go_roundw
            case rel => exact ⟨1, rfl, by decide, .inr ⟨by first | rfl | trivial, _, HJ.out.1, (H1.out.1.fewer (fun y hy => List.mem_cons_of_mem _ hy)).adds HJ.out.2⟩⟩
            case measure => simp [intOf]
      · have c2 := h2.cq HGt.out.ct
        have H2 := hid (And.intro hrow h2)
        clear hrow h2 HI
        go_wp2_with (go_at_call 39; refine (HM.out _).mono ?_; rintro e _ ⟨rfl, hw⟩; rw [hw]; clear hw)
        go_ret2
        obtain ⟨a, cap, hv, hn⟩ := row_nat H2.out.1
        exact ⟨a, cap, by rw [hv]; rfl, hn, H2.out.2⟩
  · have hR : G.takenG D' 1 0 s' [] = ([], G.mapE s' D' 0, F.getS s' D' ((0 : Nat) : Int)) := tk_bad (r := 0) (k := 0) hz
    rw [hR]
    rw [pgz_no hz] at HG
    have HG := hid HG
    have hz1 : ((G.mapE s' D' 0 : Int) != 0) = true := by simp; omega
    have hz2 : ¬ (G.mapE s' D' 0 : Int) = 0 := by omega
    generalize G.mapE s' D' 0 = z at *
    generalize F.getS s' D' ((0 : Nat) : Int) = S1 at *
    clear hR hz hcn h hdk hk9 hok hg hmo hnl hct hc1
    unfold Ptr at *
    go_enter Tryz.func56, Tryz.ntmps56
    go_wp2_with fail
    go_loopw [5] (fun kv wr => kv = .int .i64 0 ∧ wr = w) (fun _ _ => 0)
    case atStart => exact ⟨rfl, rfl⟩
    case round =>
      obtain ⟨rfl, rfl⟩ := hrel
      go_wp2_with (first
        | (go_at_call 39; refine (HM.out _).mono ?_; rintro e _ ⟨rfl, hw⟩; rw [hw]; clear hw)
        | (go_at_call 80; refine HG.out.mono ?_; rintro e w1 ⟨rfl, H1⟩))
      go_ret2
      exact ⟨none, 0, rfl, (fun i hi => by cases hi), H1.out⟩
end Go.Proofs.YtjlennpoaefllaaGreatDoor

/- Format, where each map can be put. -/
namespace Go.Proofs.YtjlennpoaefllaaGreatDoor
open Go.RowKit

def PFm (w0 : World) (X : List (Nat × Obj)) (p dp : Nat) (D : dSt) (n kk : Nat) (s : F.Po) (e : Ending) (w' : World) : Prop := ∃ sp, e = .returned (.tuple #[Ptr sp, .int .i64 0]) ∧ Hid (LpX w0 w' ((sp, SBox p) :: X) p dp s D n kk ∧ w0.heap.size ≤ sp ∧ ∀ x ∈ X, x.1 ≠ sp)
set_option maxRecDepth 100000 in
theorem format_ok {r k : Nat} {s : F.Po} (h : (G.formatG (r + 1) k s).1 = 0) : F.putE s k (G.pg k (G.first (G.cnt s) k)) = 0 ∧ G.formatG (r + 1) k s = G.formatG r (k + 1) (F.putS s k (G.pg k (G.first (G.cnt s) k))) := by
  unfold G.formatG at h
  split at h
  · rename_i q
    exact ⟨q, by conv => lhs; unfold G.formatG; rw [if_pos q]⟩
  · rename_i q
    exact absurd h q
set_option maxRecDepth 100000 in
set_option maxHeartbeats 4000000 in
theorem sformat_ok {w0 w : World} {X : List (Nat × Obj)} {p dp : Nat} {s : F.Po} {D : dSt} {n kk : Nat} (h : LpX w0 w X p dp s D n kk) (hn : n + 10 ≤ 1000000) (hz : (G.formatG (G.maps (G.cnt s)) 0 s).1 = 0) :
    Calls Tryz.prog 13 #[Ptr p] w (PFm w0 X p dp D (n + 10) kk (G.formatG (G.maps (G.cnt s)) 0 s).2) := by
  have hc := h.pok.cnt
  have hm3 := G.maps_le hc.2.1
  obtain ⟨M, hM⟩ : ∃ M, M = G.maps (G.cnt s) := ⟨_, rfl⟩
  obtain ⟨sp, hsp⟩ : ∃ sp, sp = w.heap.size := ⟨_, rfl⟩
  have h1 : LpX w0 (w.alloc (.cells #[Ptr p] 58)) ((sp, SBox p) :: X) p dp s D n kk := by rw [hsp]; exact h.more ((Touch.refl _ w).alloc _) w.heap.size _ (heap_alloc_new w _) (Nat.le_refl _)
  have h2 : w0.heap.size ≤ sp := by rw [hsp]; exact h.e.adds.size
  have h3 : ∀ x ∈ X, x.1 ≠ sp := fun x hx e => by have := (Array.getElem?_eq_some_iff.1 (h.at x hx)).1; omega
  have H1 := hid (smade_any (h1.spc List.mem_cons_self) hc.1)
  have H2 := hid (smaps_any (h1.spc List.mem_cons_self) hc.2.1)
  obtain ⟨R, hR⟩ : ∃ R, R = G.formatG (G.maps (G.cnt s)) 0 s := ⟨_, rfl⟩
  rw [← hR] at hz ⊢
  rw [← hM] at H2 hm3 hR
  have H0 := hid (And.intro h1 (And.intro hR (And.intro hn (And.intro hM (And.intro h2 (And.intro h3 (And.intro hz hc)))))))
  obtain ⟨wA, hwA⟩ : ∃ wA, wA = w.alloc (.cells #[Ptr p] 58) := ⟨_, rfl⟩
  rw [← hwA] at H0 H1 H2
  have HS := hid hsp
  unfold Ptr at *
  clear h hc hM hR hn h1 h2 h3 hz
  go_enter Tryz.func13, Tryz.ntmps13
  go_upto_region 2 with fail
  rw [← hwA, ← hsp]
  clear hwA hsp
  go_wp2_with (first
    | (go_at_call 35; refine H1.out.mono ?_; rintro e w1 ⟨rfl, hw⟩; rw [hw]; clear hw)
    | (go_at_call 36; refine H2.out.mono ?_; rintro e w1 ⟨rfl, hw⟩; rw [hw]; clear hw))
  go_loopw [15] (fun i wr => ∃ (k : Nat) (s' : F.Po), i = .int .i64 (k : Int) ∧ k ≤ M ∧ Hid (LpX w0 wr ((sp, SBox p) :: X) p dp s' D (n + k) kk ∧ G.formatG (M - k) k s' = R ∧ G.cnt s' = G.cnt s)) (fun i _ => M - (intOf i).toNat)
  case atStart =>
    exact ⟨0, s, rfl, Nat.zero_le _, H0.out.1, H0.out.2.1.symm, rfl⟩
  case round =>
    obtain ⟨k, s', rfl, hk, HI⟩ := hrel
    by_cases hlt : k < M
    · have hlt' : (k : Int) < (M : Int) := by omega
      have hr : M - k = (M - (k + 1)) + 1 := by omega
      have hkm : k < G.maps (G.cnt s') := by rw [HI.out.2.2, ← H0.out.2.2.2.1]; exact hlt
      have HR := HI.out.2.1
      rw [hr] at HR
      obtain ⟨hp, hnx⟩ := format_ok (r := M - (k + 1)) (k := k) (s := s') (by rw [HR]; exact H0.out.2.2.2.2.2.2.1)
      rw [hnx] at HR
      have HR := hid HR
      have hpc := HI.out.1.pok.cnt
      have HF := hid (sfirst_any (HI.out.1.spc List.mem_cons_self) hpc.2.1 hkm)
      have hfl : (G.first (G.cnt s') k).length ≤ 240 := by rw [G.len_first]; exact G.cells_le _ _
      have HP := hid (fun (w1 : World) (hA : Adds wr w1) (g cap : Nat) (hAt : At w1 (some ⟨g, 0, none⟩) (G.first (G.cnt s') k)) => show Calls Tryz.prog 37 #[Ptr sp, .int .i64 (k : Int), .slice (some ⟨g, 0, none⟩) (G.first (G.cnt s') k).length cap] w1 (fun e w' => e = .returned (.int .i64 0) ∧ Hid (LpX w0 w' ((sp, SBox p) :: X) p dp (F.putS s' k (G.pg k (G.first (G.cnt s') k))) D (n + k + 1) kk)) by
        have q := sput_any (HI.out.1.add hA) List.mem_cons_self (by have := H0.out.2.2.1; omega) (k := k) (by omega) g (G.first (G.cnt s') k) cap hAt hfl
        rw [hp] at q
        exact q)
      have HCT := hid (G.put_ct s' (k : Int) (G.pg k (G.first (G.cnt s') k)))
      unfold Ptr at *
      clear hr hkm hp hnx hpc hfl
      go_wp2_with (first
        | (go_at_call 38; refine HF.out.mono ?_; rintro e w1 ⟨g, cap, rfl, H3⟩)
        | (go_at_call 37; refine (HP.out w1 H3.out.2.2.2 g cap H3.out.1.at).mono ?_; rintro e w2 ⟨rfl, H4⟩))
      go_roundw
      case rel => exact ⟨k + 1, _, by go_num, by omega, H4.out, HR.out, by rw [HCT.out]; exact HI.out.2.2⟩
      case measure => simp [intOf]; omega
    · obtain rfl : k = M := by omega
      have HR := hid HI.out.2.1
      rw [Nat.sub_self] at HR
      go_wp2_with fail
      go_ret2
      refine ⟨sp, rfl, ?_, H0.out.2.2.2.2.1, H0.out.2.2.2.2.2.1⟩
      rw [← HR.out]
      exact HI.out.1.le (by omega)
end Go.Proofs.YtjlennpoaefllaaGreatDoor

/- Left; a space over a pool of its own. -/
namespace Go.Proofs.YtjlennpoaefllaaGreatDoor
open Go.RowKit

/-- What Left leaves. -/
def PLf (w0 : World) (X : List (Nat × Obj)) (p dp : Nat) (D : dSt) (n kk : Nat) (c : Int) (R : List Int × Nat × F.Po) (e : Ending) (w' : World) : Prop := e = .returned (.tuple #[.int .i64 (if R.2.1 = 0 then c - R.1.length else 0), .int .i64 (R.2.1 : Int)]) ∧ Hid (LpX w0 w' X p dp R.2.2 D n kk)
theorem taken_ct (D : dSt) : ∀ (r k : Nat) (s : F.Po) (l : List Int), G.cnt (G.takenG D r k s l).2.2 = G.cnt s
  | 0, _, _, _ => rfl
  | r + 1, k, s, l => by
    unfold G.takenG
    split
    · rw [taken_ct D r (k + 1) _ _, G.get_ct]
    · exact G.get_ct s D _
theorem taken_lenG (D : dSt) : ∀ (r k : Nat) (s : F.Po) (l : List Int), (G.takenG D r k s l).1.length ≤ l.length + 1920 * r
  | 0, _, _, l => Nat.le_add_right _ _
  | r + 1, k, s, l => by
    unfold G.takenG
    split
    · rename_i hz
      have h1 := taken_lenG D r (k + 1) (F.getS s D k) (l ++ G.taken k (G.mapB s D k))
      have h2 := tak_len k (G.mapB s D k)
      have h3 := G.may_len (G.mapB_may hz).2.2.1
      have h4 := G.cells_le (G.cnt s) k
      rw [List.length_append] at h1
      omega
    · simp
set_option maxRecDepth 100000 in
set_option maxHeartbeats 2000000 in
theorem sleft_any {w0 w : World} {X : List (Nat × Obj)} {p dp : Nat} {s : F.Po} {D : dSt} {n kk sp : Nat} (h : LpX w0 w X p dp s D n kk) (hX : (sp, SBox p) ∈ X) (hn : n + 10 ≤ 1000000) (hk9 : kk ≤ 900) :
    Calls Tryz.prog 58 #[Ptr sp] w (PLf w0 X p dp D (n + 10) kk s.ct (G.takenG D (G.maps (G.cnt s)) 0 s [])) := by
  have HT := hid (staken_any h hX hn hk9)
  have hc := h.pok.cnt
  have hct := taken_ct D (G.maps (G.cnt s)) 0 s []
  have hle := taken_lenG D (G.maps (G.cnt s)) 0 s []
  have hm3 := G.maps_le hc.2.1
  generalize G.takenG D (G.maps (G.cnt s)) 0 s [] = R at *
  obtain ⟨l, z, s'⟩ := R
  have hll : l.length ≤ 6000 := by simp at hle; omega
  obtain ⟨c, hcc⟩ : ∃ c, c = G.cnt s := ⟨_, rfl⟩
  have HC := hid (And.intro hct (And.intro hcc hc.2.2))
  have HX := hid hX
  have hc9 : c ≤ 4096 := by omega
  obtain ⟨ll, hll'⟩ : ∃ ll, ll = l.length := ⟨_, rfl⟩
  have HLL := hid hll'
  rw [← hll'] at hll
  clear h hX hn hk9 hc hct hle hcc hll'
  by_cases hz : z = 0
  · subst hz
    go_enter Tryz.func58, Tryz.ntmps58
    go_wp2_with (first
      | (go_at_call 29; refine HT.out.mono ?_; rintro e w1 ⟨v, Y, rfl, H1⟩
         obtain ⟨va, vc, hv, _⟩ := H1.out.2.2
         rw [← HLL.out] at hv
         subst hv
         have hsp := H1.out.1.spc (H1.out.2.1 _ HX.out)
         have c1 : w1.cell? ⟨sp, 0, none⟩ = some (Ptr p) := by rw [cellOf hsp.box]; rfl
         have HN := hid (show Calls Tryz.prog 74 #[Ptr p] w1 (Tells (.int .i64 (c : Int)) w1) by have q := scount_any hsp; have e1 : G.cnt s' = G.cnt s := HC.out.1; rw [e1, ← HC.out.2.1] at q; exact q)
         clear hsp)
      | (go_at_call 74; refine HN.out.mono ?_; rintro e w2 ⟨rfl, hw⟩; rw [hw]; clear hw))
    go_ret2
    refine ⟨?_, H1.out.1.fewer H1.out.2.1⟩
    rw [if_pos rfl, ← HC.out.2.2, ← HC.out.2.1, ← HLL.out]
    rfl
  · have hz1 : ((z : Int) != 0) = true := by simp; omega
    have hz2 : ¬ (z : Int) = 0 := by omega
    go_enter Tryz.func58, Tryz.ntmps58
    go_wp2_with (go_at_call 29; refine HT.out.mono ?_; rintro e w1 ⟨v, Y, rfl, H1⟩; obtain ⟨va, vc, hv, _⟩ := H1.out.2.2; rw [← HLL.out] at hv; subst hv)
    go_ret2
    refine ⟨?_, H1.out.1.fewer H1.out.2.1⟩
    rw [if_neg hz]
    rfl
/-- A space over a pool of its own. -/
def PForm (w : World) (c : Nat) (e : Ending) (w' : World) : Prop := ∃ sp p dp, e = .returned (Ptr sp) ∧ Hid (LpX w w' [(sp, SBox p)] p dp (G.S1 c 8 (G.first c 0) true false []) (dSt.new c) 10 0 ∧ w.heap.size ≤ sp)
set_option maxRecDepth 100000 in
set_option maxHeartbeats 2000000 in
theorem formatted_any (c : Nat) (hc : 1 ≤ c) (hc2 : c ≤ 1920) (w : World) (hT : Tab w) : Calls Tryz.prog 30 #[.int .i64 (c : Int)] w (PForm w c) := by
  have HN := hid (new_yes (c : Int) w w.heap.size (Nat.le_refl _) (by omega) (by omega))
  have hok : F.openOk (dSt.new c) 0 c 8 = true := decide_eq_true ⟨by decide, by omega, by omega, by show (0 : Int) + c ≤ c; omega, by decide, by decide⟩
  have HO := hid (fun (w1 : World) (dp hb : Nat) (hd : IsDisk w1 0 dp hb (.slice none 0 0) (dSt.new c)) => show Calls Tryz.prog 11 #[Ptr dp, .int .i64 0, .int .i64 (c : Int), .int .i64 8] w1 (POpn w1 dp ⟨0, c, 8, []⟩) from bopen_ok (OD := fun k => k = dp ∨ k = hb) (k := 0) ⟨hb, _, hd, .inl rfl, .inr rfl, fun k hk => by cases hk⟩ (dnew_ok c 0 (by omega)) (by show (c : Int) ≤ 4096; omega) 0 c 8 hok)
  have HPk := hid (show POk ⟨0, c, 8, []⟩ (dSt.new c) from ⟨Int.le_refl _, by show (1 : Int) ≤ c; omega, by show (0 : Int) + c ≤ c; omega, by show (c : Int) ≤ 4096; omega, by show (1 : Int) ≤ 8; decide, by show (8 : Int) ≤ 256; decide⟩)
  have hf := G.format1 (c := c) (mo := 8) hc hc2 (by decide)
  have HF := hid (fun (w2 : World) (p dp : Nat) (h : LpE w w2 p dp ⟨0, c, 8, []⟩ (dSt.new c) 0 0) => show Calls Tryz.prog 13 #[Ptr p] w2 (PFm w [] p dp (dSt.new c) 10 0 (G.S1 c 8 (G.first c 0) true false [])) by
    have q := sformat_ok h.x (by omega) (by rw [show ((8 : Nat) : Int) = 8 from rfl] at hf; rw [hf])
    rw [show ((8 : Nat) : Int) = 8 from rfl] at hf
    rw [hf] at q
    exact q)
  have HT := hid hT
  have hc9 : (c : Int) ≤ 1920 := by omega
  have hc1 : (1 : Int) ≤ c := by omega
  have HD := hid (dnew_ok (c : Int) 0 (by omega))
  unfold Ptr at *
  clear hT hok hf
  go_enter Tryz.func30, Tryz.ntmps30
  go_wp2_with (first
    | (go_at_call 9; refine HN.out.mono ?_; rintro e w1 ⟨dp, hb, rfl, hp, hhb, hd, hA1⟩; have H1 := hid (And.intro hp (And.intro hhb (And.intro (hd.mono (Nat.zero_le _)) hA1))); clear hd hA1 hp hhb)
    | (go_at_call 11; refine (HO.out w1 dp hb H1.out.2.2.1).mono ?_; rintro e w2 ⟨p, rfl, H2⟩)
    | (go_at_call 13; refine (HF.out w2 p dp (lp_new HT.out H1.out.2.2.2 H1.out.2.2.1 H1.out.1 H1.out.2.1 HD.out H2.out.1 H2.out.2 HPk.out)).mono ?_; rintro e w3 ⟨sp, rfl, H3⟩))
  go_ret
  exact ⟨sp, p, dp, rfl, H3.out.1, H3.out.2.1⟩
end Go.Proofs.YtjlennpoaefllaaGreatDoor

/- A space's calls while the reference's pool lies beside it. -/
namespace Go.Proofs.YtjlennpoaefllaaGreatDoor
open Go.RowKit

set_option maxRecDepth 100000 in
theorem bk_type {W : World} {B e sz n : Nat} {v : Value} {xs : List Value} (h : W.ownsRow B e sz v n xs) {y : Nat × Obj} (hy : y ∈ rowBk W v) : ∃ cs, y.2 = Obj.cells cs e (0, 0) := by
  obtain ⟨h1, h2⟩ := mem_rowBk.1 hy
  rcases h.2 with ⟨rfl, _⟩ | ⟨g, cap, cur, rfl, _, hg, _⟩
  · cases h1
  · obtain e1 : g = y.1 := by simpa [Value.ownBlock] using h1
    rw [← e1, hg] at h2
    exact ⟨cur, (Option.some.inj h2).symm⟩
set_option maxRecDepth 100000 in
theorem PwE.lpy {w0 w : World} {X : List (Nat × Obj)} {p d q r : Nat} {s s' : F.Po} {D D' : dSt} {n k : Nat} (h : PwE w0 w X p d q r s s' D D' n k) :
    ∃ Y, LpX w0 w (X ++ Y) p d s D n k ∧ (∀ y ∈ Y, ∀ x ∈ X, y.1 ≠ x.1) ∧ (∀ y ∈ Y, ∃ cs t fr, y.2 = Obj.cells cs t fr ∧ t ≠ 3 ∧ t ≠ 4 ∧ t ≠ 5 ∧ t ≠ 58) ∧ ∀ (w' : World) (Z : List (Nat × Obj)) (s2 : F.Po) (D2 : dSt) (n2 k2 : Nat), LpX w0 w' Z p d s2 D2 n2 k2 → (∀ x ∈ Y, x ∈ Z) → ∀ X2 : List (Nat × Obj), (∀ x ∈ X2, x ∈ Z ∧ ∀ y ∈ Y, y.1 ≠ x.1) → PwE w0 w' X2 p d q r s2 s' D2 D' n2 k2 := by
  obtain ⟨O, OD, OQ, OR, h⟩ := h
  obtain ⟨lv, hq⟩ := h.isq
  obtain ⟨hv, wv, hr, h1, h2, h3⟩ := h.ro
  have hbq := hq.box
  have hbr := hr.box
  refine ⟨(q, QBox r s' lv) :: (r, .cells #[hv, wv, .int .i64 D'.steps, .int .i64 D'.left] 84 (0, 0)) :: (rowBk w lv ++ (rowBk w hv ++ rowBk w wv)), ⟨O, OD, h.wl, fun x hx => ?_⟩, fun y hy x hx e => ?_, fun y hy => ?_, fun w' Z s2 D2 n2 k2 hL hZ X2 hX2 => ?_⟩
  · rcases List.mem_append.1 hx with hx | hx
    · exact ⟨(h.oth x hx).1, fun c => (h.oth x hx).2 (.inl c)⟩
    · have key : w.heap[x.1]? = some x.2 ∧ (OQ x.1 ∨ OR x.1) := by
        rcases List.mem_cons.1 hx with rfl | hx
        · exact ⟨hbq, .inl hq.oq⟩
        · rcases List.mem_cons.1 hx with rfl | hx
          · exact ⟨hbr, .inr h1⟩
          · rcases List.mem_append.1 hx with hx | hx
            · exact ⟨(mem_rowBk.1 hx).2, .inl (hq.ol _ (mem_rowBk.1 hx).1)⟩
            · rcases List.mem_append.1 hx with hx | hx
              · exact ⟨(mem_rowBk.1 hx).2, .inr (h2 _ (mem_rowBk.1 hx).1)⟩
              · exact ⟨(mem_rowBk.1 hx).2, .inr (h3 _ (mem_rowBk.1 hx).1)⟩
      exact ⟨key.1, fun c => h.ap _ c key.2⟩
  · have key : OQ y.1 ∨ OR y.1 := by
      rcases List.mem_cons.1 hy with rfl | hy
      · exact .inl hq.oq
      · rcases List.mem_cons.1 hy with rfl | hy
        · exact .inr h1
        · rcases List.mem_append.1 hy with hy | hy
          · exact .inl (hq.ol _ (mem_rowBk.1 hy).1)
          · rcases List.mem_append.1 hy with hy | hy
            · exact .inr (h2 _ (mem_rowBk.1 hy).1)
            · exact .inr (h3 _ (mem_rowBk.1 hy).1)
    exact (h.oth x hx).2 (.inr (by rw [← e]; exact key))
  · rcases List.mem_cons.1 hy with rfl | hy
    · exact ⟨_, _, _, rfl, by decide, by decide, by decide, by decide⟩
    · rcases List.mem_cons.1 hy with rfl | hy
      · exact ⟨_, _, _, rfl, by decide, by decide, by decide, by decide⟩
      · rcases List.mem_append.1 hy with hy | hy
        · obtain ⟨cs, hc⟩ := bk_type hq.row hy
          exact ⟨cs, _, _, hc, by decide, by decide, by decide, by decide⟩
        · rcases List.mem_append.1 hy with hy | hy
          · obtain ⟨cs, hc⟩ := bk_type hr.held hy
            exact ⟨cs, _, _, hc, by decide, by decide, by decide, by decide⟩
          · obtain ⟨cs, hc⟩ := bk_type hr.wait hy
            exact ⟨cs, _, _, hc, by decide, by decide, by decide, by decide⟩
  · obtain ⟨O2, OD2, hl, hz⟩ := hL
    have at' : ∀ x, x ∈ (q, QBox r s' lv) :: (r, Obj.cells #[hv, wv, .int .i64 D'.steps, .int .i64 D'.left] 84 (0, 0)) :: (rowBk w lv ++ (rowBk w hv ++ rowBk w wv)) → w'.heap[x.1]? = some x.2 ∧ ¬ (O2 x.1 ∨ OD2 x.1) := fun x hx => hz x (hZ x hx)
    have aq := at' _ List.mem_cons_self
    have ar := at' _ (List.mem_cons_of_mem _ List.mem_cons_self)
    have al : ∀ y ∈ rowBk w lv, w'.heap[y.1]? = some y.2 ∧ ¬ (O2 y.1 ∨ OD2 y.1) := fun y hy => at' y (List.mem_cons_of_mem _ (List.mem_cons_of_mem _ (List.mem_append_left _ hy)))
    have ah : ∀ y ∈ rowBk w hv, w'.heap[y.1]? = some y.2 ∧ ¬ (O2 y.1 ∨ OD2 y.1) := fun y hy => at' y (List.mem_cons_of_mem _ (List.mem_cons_of_mem _ (List.mem_append_right _ (List.mem_append_left _ hy))))
    have aw : ∀ y ∈ rowBk w wv, w'.heap[y.1]? = some y.2 ∧ ¬ (O2 y.1 ∨ OD2 y.1) := fun y hy => at' y (List.mem_cons_of_mem _ (List.mem_cons_of_mem _ (List.mem_append_right _ (List.mem_append_right _ hy))))
    have inY : ∀ j, ((j = q ∨ lv.ownBlock = some j) ∨ (j = r ∨ hv.ownBlock = some j ∨ wv.ownBlock = some j)) → ∃ y, y ∈ (q, QBox r s' lv) :: (r, Obj.cells #[hv, wv, .int .i64 D'.steps, .int .i64 D'.left] 84 (0, 0)) :: (rowBk w lv ++ (rowBk w hv ++ rowBk w wv)) ∧ y.1 = j := fun j c => by
      rcases c with (rfl | c) | rfl | c | c
      · exact ⟨_, List.mem_cons_self, rfl⟩
      · obtain ⟨y, hy, e⟩ := row_inB hq.row c
        exact ⟨y, List.mem_cons_of_mem _ (List.mem_cons_of_mem _ (List.mem_append_left _ hy)), e⟩
      · exact ⟨_, List.mem_cons_of_mem _ List.mem_cons_self, rfl⟩
      · obtain ⟨y, hy, e⟩ := row_inB hr.held c
        exact ⟨y, List.mem_cons_of_mem _ (List.mem_cons_of_mem _ (List.mem_append_right _ (List.mem_append_left _ hy))), e⟩
      · obtain ⟨y, hy, e⟩ := row_inB hr.wait c
        exact ⟨y, List.mem_cons_of_mem _ (List.mem_cons_of_mem _ (List.mem_append_right _ (List.mem_append_right _ hy))), e⟩
    have inQ : ∀ j, (j = q ∨ lv.ownBlock = some j) → OQ j := fun j c => by
      rcases c with rfl | c
      · exact hq.oq
      · exact hq.ol j c
    have inR : ∀ j, (j = r ∨ hv.ownBlock = some j ∨ wv.ownBlock = some j) → OR j := fun j c => by
      rcases c with rfl | c | c
      · exact h1
      · exact h2 j c
      · exact h3 j c
    refine ⟨O2, OD2, fun j => j = q ∨ lv.ownBlock = some j, fun j => j = r ∨ hv.ownBlock = some j ∨ wv.ownBlock = some j, hl, ⟨lv, ⟨aq.1, row_back hq.row (fun y hy => (al y hy).1), .inl rfl, fun k hk => .inr hk⟩⟩, ⟨hv, wv, ⟨ar.1, row_back hr.held (fun y hy => (ah y hy).1), row_back hr.wait (fun y hy => (aw y hy).1), hr.places, hr.low, hr.size, hr.good, hr.goodW⟩, .inl rfl, fun k hk => .inr (.inl hk), fun k hk => .inr (.inr hk)⟩, fun j c c' => h.apq j (inQ j c) (inR j c'), fun j c c' => ?_, fun j c => h.low j (c.imp (inQ j) (inR j)), fun j c => ?_, fun x hx => ?_⟩
    · obtain ⟨y, hy, e⟩ := inY j c'
      exact (at' y hy).2 (by rw [e]; exact c)
    · obtain ⟨y, hy, e⟩ := inY j c
      rw [← e]
      exact (Array.getElem?_eq_some_iff.1 (at' y hy).1).1
    · obtain ⟨q1, q2⟩ := hX2 x hx
      refine ⟨(hz x q1).1, fun c => ?_⟩
      rcases c with c | c
      · exact (hz x q1).2 c
      · obtain ⟨y, hy, e⟩ := inY x.1 c
        exact q2 y hy e
/-- Blocks of other types lie apart. -/
theorem ty_apart {w0 w : World} {Z : List (Nat × Obj)} {p dp : Nat} {s : F.Po} {D : dSt} {n k : Nat} (h : LpX w0 w Z p dp s D n k) {x y : Nat × Obj} (hx : x ∈ Z) (hy : y ∈ Z) {cs cs' : Array Value} {t t' : TypeId} {fr fr' : Nat × Nat} (ex : x.2 = .cells cs t fr) (ey : y.2 = .cells cs' t' fr') (ht : t' ≠ t) : y.1 ≠ x.1 := fun e => by
  have h1 := h.at x hx
  have h2 := h.at y hy
  rw [e, h1, ex, ey] at h2
  cases h2
  exact ht rfl
section
variable {w0 w : World} {X : List (Nat × Obj)} {p d q r sp : Nat} {s s' : F.Po} {D D' : dSt} {n k : Nat}
set_option maxRecDepth 100000 in
theorem pw_alloc (h : PwE w0 w X p d q r s s' D D' n k) (hX : (sp, SBox p) ∈ X) (hn : n + 10 ≤ 1000000) (hk9 : k ≤ 900) :
    Calls Tryz.prog 31 #[Ptr sp] w (fun e w' => e = .returned (.tuple #[.int .i64 (G.allocG D (G.maps (G.cnt s)) 0 s).1, .int .i64 ((G.allocG D (G.maps (G.cnt s)) 0 s).2.1 : Int)]) ∧ Hid (PwE w0 w' X p d q r (G.allocG D (G.maps (G.cnt s)) 0 s).2.2 s' D D' (n + 10) k)) := by
  obtain ⟨Y, hL, ap, _, hback⟩ := h.lpy
  refine (salloc_any hL (List.mem_append_left _ hX) hn hk9).mono ?_
  rintro e w' ⟨he, H⟩
  exact ⟨he, hback w' _ _ _ _ _ H.out (fun x hx => List.mem_append_right _ hx) X (fun x hx => ⟨List.mem_append_left _ hx, fun y hy => ap y hy x hx⟩)⟩
set_option maxRecDepth 100000 in
theorem pw_free (h : PwE w0 w X p d q r s s' D D' n k) (hX : (sp, SBox p) ∈ X) (hn : n + 10 ≤ 1000000) (hk9 : k ≤ 900) (no : Int) :
    Calls Tryz.prog 32 #[Ptr sp, .int .i64 no] w (fun e w' => e = .returned (.int .i64 ((G.freeG D s no).1 : Int)) ∧ Hid (PwE w0 w' X p d q r (G.freeG D s no).2 s' D D' (n + 10) k)) := by
  obtain ⟨Y, hL, ap, _, hback⟩ := h.lpy
  refine (sfree_any hL (List.mem_append_left _ hX) hn hk9 no).mono ?_
  rintro e w' ⟨he, H⟩
  exact ⟨he, hback w' _ _ _ _ _ H.out (fun x hx => List.mem_append_right _ hx) X (fun x hx => ⟨List.mem_append_left _ hx, fun y hy => ap y hy x hx⟩)⟩
set_option maxRecDepth 100000 in
theorem pw_left (h : PwE w0 w X p d q r s s' D D' n k) (hX : (sp, SBox p) ∈ X) (hn : n + 10 ≤ 1000000) (hk9 : k ≤ 900) :
    Calls Tryz.prog 58 #[Ptr sp] w (fun e w' => e = .returned (.tuple #[.int .i64 (if (G.takenG D (G.maps (G.cnt s)) 0 s []).2.1 = 0 then s.ct - (G.takenG D (G.maps (G.cnt s)) 0 s []).1.length else 0), .int .i64 ((G.takenG D (G.maps (G.cnt s)) 0 s []).2.1 : Int)]) ∧ Hid (PwE w0 w' X p d q r (G.takenG D (G.maps (G.cnt s)) 0 s []).2.2 s' D D' (n + 10) k)) := by
  obtain ⟨Y, hL, ap, _, hback⟩ := h.lpy
  refine (sleft_any hL (List.mem_append_left _ hX) hn hk9).mono ?_
  rintro e w' ⟨he, H⟩
  exact ⟨he, hback w' _ _ _ _ _ H.out (fun x hx => List.mem_append_right _ hx) X (fun x hx => ⟨List.mem_append_left _ hx, fun y hy => ap y hy x hx⟩)⟩
set_option maxRecDepth 100000 in
/-- The numbers that Taken tells lie in a block that is nobody's, the reference's pool beside it. -/
theorem pw_taken (h : PwE w0 w X p d q r s s' D D' n k) (hX : (sp, SBox p) ∈ X) (hn : n + 10 ≤ 1000000) (hk9 : k ≤ 900) :
    Calls Tryz.prog 29 #[Ptr sp] w (fun e w' => ∃ a cap X2, e = .returned (.tuple #[.slice a (G.takenG D (G.maps (G.cnt s)) 0 s []).1.length cap, .int .i64 ((G.takenG D (G.maps (G.cnt s)) 0 s []).2.1 : Int)]) ∧ Hid (PwE w0 w' X2 p d q r (G.takenG D (G.maps (G.cnt s)) 0 s []).2.2 s' D D' (n + 10) k ∧ (∀ x ∈ X, x ∈ X2) ∧ AgX X2 (.slice a (G.takenG D (G.maps (G.cnt s)) 0 s []).1.length cap) (G.takenG D (G.maps (G.cnt s)) 0 s []).1)) := by
  obtain ⟨Y, hL, ap, ty, hback⟩ := h.lpy
  refine (staken_any hL (List.mem_append_left _ hX) hn hk9).mono ?_
  rintro e w' ⟨v, Z, he, H⟩
  obtain ⟨a, cap, hv, hg⟩ := H.out.2.2
  subst hv
  refine ⟨a, cap, X ++ Z.filter (fun z => match z.2 with
    | .cells _ t _ => decide (t = 3)
    | _ => false), he, ?_, fun x hx => List.mem_append_left _ hx, a, cap, rfl, fun i hi => ?_⟩
  · refine hback w' Z _ _ _ _ H.out.1 (fun y hy => H.out.2.1 y (List.mem_append_right _ hy)) _ (fun x hx => ?_)
    rcases List.mem_append.1 hx with hx | hx
    · exact ⟨H.out.2.1 x (List.mem_append_left _ hx), fun y hy => ap y hy x hx⟩
    · obtain ⟨hz, ht⟩ := List.mem_filter.1 hx
      refine ⟨hz, fun y hy => ?_⟩
      obtain ⟨cs, t, fr, ey, t3, _⟩ := ty y hy
      obtain ⟨g, o⟩ := x
      cases o with
      | cells cs' t' fr' =>
        have ht' : t' = 3 := by simpa using ht
        exact ty_apart H.out.1 hz (H.out.2.1 y (List.mem_append_right _ hy)) rfl ey (by rw [ht']; exact t3)
      | _ => simp at ht
  · obtain ⟨b, o, cs, fr, q1, q2, q3⟩ := hg i hi
    exact ⟨b, o, cs, fr, q1, List.mem_append_right _ (List.mem_filter.2 ⟨q2, by simp⟩), q3⟩
end
end Go.Proofs.YtjlennpoaefllaaGreatDoor

/- A pair of pools is opened. -/
namespace Go.Proofs.YtjlennpoaefllaaGreatDoor
open Go.RowKit
/-- Both disks, without pools. -/
structure Pd11 (w0 w : World) (X : List (Nat × Obj)) (OD OR : Nat → Prop) (d r : Nat) (D D' : dSt) : Prop where
  dk : IsDO w OD d D
  ro : IsRO w OR r D'
  ap : ∀ k, OD k → ¬ OR k
  low : ∀ k, OD k ∨ OR k → w0.heap.size ≤ k
  lt : ∀ k, OD k ∨ OR k → k < w.heap.size
  base : Adds w0 w
  oth : ∀ x ∈ X, w.heap[x.1]? = some x.2 ∧ ¬ (OD x.1 ∨ OR x.1)
def PdE11 (w0 w : World) (X : List (Nat × Obj)) (d r : Nat) (D D' : dSt) : Prop := ∃ OD OR, Pd11 w0 w X OD OR d r D D'
theorem Pd11.adds {w0 w w' : World} {X : List (Nat × Obj)} {OD OR : Nat → Prop} {d r : Nat} {D D' : dSt} (h : Pd11 w0 w X OD OR d r D D') (hA : Adds w w') : Pd11 w0 w' X OD OR d r D D' :=
  ⟨h.dk.adds hA, h.ro.adds hA, h.ap, h.low, fun k c => Nat.lt_of_lt_of_le (h.lt k c) hA.size, h.base.trans hA, fun x hx => ⟨hA.at' (h.oth x hx).1 id, (h.oth x hx).2⟩⟩
set_option maxRecDepth 100000 in
theorem PwE.disks {w0 w : World} {X : List (Nat × Obj)} {p d q r : Nat} {s s' : F.Po} {D D' : dSt} {n k : Nat} (h : PwE w0 w X p d q r s s' D D' n k) : PdE11 w0 w X d r D D' := by
  obtain ⟨OL, OD, OQ, OR, h⟩ := h
  refine ⟨OD, OR, h.wl.disk, h.ro, fun k c c' => h.ap k (.inr c) (.inr c'), fun k c => ?_, fun k c => ?_, h.wl.adds, fun x hx => ⟨(h.oth x hx).1, fun c => (h.oth x hx).2 ?_⟩⟩
  · rcases c with c | c
    · exact h.wl.low k (.inr c)
    · exact h.low k (.inr c)
  · rcases c with c | c
    · exact h.wl.lt k (.inr c)
    · exact h.lt k (.inr c)
  · rcases c with c | c
    · exact .inl (.inr c)
    · exact .inr (.inr c)
set_option maxRecDepth 100000 in
/-- Pools on both disks. -/
theorem Pd11.pools {w0 w w1 w2 : World} {X : List (Nat × Obj)} {OD OR : Nat → Prop} {p d q r : Nat} {s : F.Po} {D D' : dSt} {k : Nat} (h : Pd11 w0 w X OD OR d r D D') (h1 : IsPool w1 (fun k => w.heap.size ≤ k ∧ k < w1.heap.size) p d s 0 ∧ Adds w w1) (h2 : IsQ w2 (fun k => w1.heap.size ≤ k ∧ k < w2.heap.size) q r s ∧ Adds w1 w2) (hk : DOk D k) (hT : Tab w0) (hg : F.Good s) (hp : POk s D) : PwE w0 w2 X p d q r s s D D' 0 k := by
  obtain ⟨hq, hA2⟩ := h2
  have z1 := h1.2.size
  have z2 := hA2.size
  have z0 := h.base.size
  have h' := h.adds (h1.2.trans hA2)
  refine ⟨_, OD, _, OR, ⟨h1.1.adds hA2, h'.dk, hk, fun k c c' => ?_, fun k c => ?_, fun k c => ?_, h'.base, hT, hg, hp⟩, hq, h'.ro, fun k c c' => ?_, fun k c c' => ?_, fun k c => ?_, fun k c => ?_, fun x hx => ⟨(h'.oth x hx).1, fun c => ?_⟩⟩
  · have := h.lt k (.inl c'); omega
  · rcases c with c | c
    · omega
    · exact h.low k (.inl c)
  · rcases c with c | c
    · omega
    · have := h.lt k (.inl c); omega
  · have := h.lt k (.inr c'); omega
  · rcases c with c | c <;> rcases c' with c' | c'
    · omega
    · have := h.lt k (.inr c'); omega
    · have := h.lt k (.inl c); omega
    · exact h.ap k c c'
  · rcases c with c | c
    · omega
    · exact h.low k (.inr c)
  · rcases c with c | c
    · exact c.2
    · have := h.lt k (.inr c); omega
  · have hx1 := (Array.getElem?_eq_some_iff.1 (h.oth x hx).1).1
    have hx2 := (h.oth x hx).2
    rcases c with (c | c) | c | c
    · omega
    · exact hx2 (.inl c)
    · omega
    · exact hx2 (.inr c)
theorem good_new (fr ct mo : Int) (h : 1 ≤ mo) : F.Good ⟨fr, ct, mo, []⟩ := ⟨fun f hf => (by cases hf), fun f hf => (by cases hf), fun f hf => (by cases hf), by show (([] : List F.Fr).length : Int) ≤ mo; simp; omega, List.nodup_nil⟩
end Go.Proofs.YtjlennpoaefllaaGreatDoor
