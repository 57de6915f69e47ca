/- Texts put together: KLeaf, KCell, KRow, GQ5, FR1. -/
import Derived.Test.YtjlennpoaefllaaGreatDoorQ36
import Derived.Test.YtjlennpoaefllaaGreatDoorQ22
import Derived.Test.YtjlennpoaefllaaGreatDoorQ26
import Derived.Test.YtjlennpoaefllaaGreatDoorQ31
import Derived.Test.YtjlennpoaefllaaGreatDoorQ32
/- How many pages; how many bytes they have; the number that comes next; whether there is a space. -/
namespace Go.Proofs.YtjlennpoaefllaaGreatDoor
open Go.RowKit

set_option maxRecDepth 100000 in
set_option maxHeartbeats 400000 in
theorem xpages_big (w : World) (z : Int) (h0 : ¬ z < 0) (h1 : ¬ z ≤ 234) (h2 : z ≤ 9223372036854775807) : Calls Tryz.prog 22 #[.int .i64 z] w (Tells (.int .i64 (2 + (z - 234 - 1) / 238)) w) := by
  have h3 : (0 : Int) ≤ z - 234 - 1 := by omega
  go_enter Tryz.func22, Tryz.ntmps22
  go_wp2_with fail
  go_ret
  exact ⟨rfl, rfl⟩
set_option maxRecDepth 100000 in
set_option maxHeartbeats 400000 in
theorem xpages_any (w : World) (n : Nat) (hn : (n : Int) ≤ 9223372036854775807) : Calls Tryz.prog 22 #[.int .i64 (n : Int)] w (Tells (.int .i64 (K.pages n : Int)) w) := by
  have h0 : ¬ (n : Int) < 0 := by omega
  by_cases h : n ≤ 234
  · have hz : (n : Int) ≤ 234 := by omega
    have e : K.pages n = 1 := by unfold K.pages; rw [if_pos h]
    rw [e]
    clear e hn
    go_enter Tryz.func22, Tryz.ntmps22
    go_wp2_with fail
    go_ret
    exact ⟨rfl, rfl⟩
  · have e : (K.pages n : Int) = 2 + ((n : Int) - 234 - 1) / 238 := by unfold K.pages; rw [if_neg h]; omega
    rw [e]
    exact xpages_big w n h0 (by omega) hn
set_option maxRecDepth 100000 in
set_option maxHeartbeats 400000 in
theorem xinp_any (w : World) (i n : Nat) (hi : i ≤ 100) (hn : n ≤ 10000000000) : Calls Tryz.prog 107 #[.int .i64 (i : Int), .int .i64 (n : Int)] w (Tells (.int .i64 (K.inP i n : Int)) w) := by
  by_cases h : i = 0
  · subst h
    have e : K.inP 0 n = 0 := rfl
    rw [e]
    clear e
    go_enter Tryz.func107, Tryz.ntmps107
    go_wp2_with fail
    go_ret
    exact ⟨rfl, rfl⟩
  · obtain ⟨m, rfl⟩ : ∃ m, i = m + 1 := ⟨i - 1, by omega⟩
    have hz : ¬ ((m : Int) + 1 = 0) := by omega
    have e : (K.inP (m + 1) n : Int) = min (234 + 238 * (m : Int)) (n : Int) := by unfold K.inP; rw [if_neg h]; simp; omega
    rw [e]
    clear e h
    have h1 : (m : Int) ≤ 99 := by omega
    have h2 : (0 : Int) ≤ (m : Int) := by omega
    have h3 : (n : Int) ≤ 10000000000 := by omega
    have h4 : (0 : Int) ≤ (n : Int) := by omega
    rw [show ((m + 1 : Nat) : Int) = (m : Int) + 1 from rfl]
    go_enter Tryz.func107, Tryz.ntmps107
    go_wp2_with fail
    go_ret
    refine ⟨congrArg (fun z => Ending.returned (Value.int .i64 z)) ?_, rfl⟩
    omega
set_option maxRecDepth 100000 in
set_option maxHeartbeats 400000 in
theorem xnext_any (w : World) (a : Option Addr) (cap : Nat) (l : List Int) (n : Nat) (hl : l.length = n) (hn : n ≤ 1000) (hA : NAt w a l) (i : Nat) (hi : i < n) : Calls Tryz.prog 106 #[.slice a n cap, .int .i64 (i : Int)] w (Tells (.int .i64 (K.nxt l i)) w) := by
  have hi9 : (i : Int) ≤ 1000 := by omega
  by_cases h : i + 1 = n
  · have hz : (i : Int) + 1 = (n : Int) := by omega
    have e : K.nxt l i = 0 := by unfold K.nxt; rw [List.getD_eq_getElem?_getD, List.getElem?_eq_none (by omega)]; rfl
    rw [e]
    clear e hA hi
    go_enter Tryz.func106, Tryz.ntmps106
    go_wp2_with fail
    go_ret
    exact ⟨rfl, rfl⟩
  · have hz : ¬ (i : Int) + 1 = (n : Int) := by omega
    have hlt : (i : Int) + 1 < (n : Int) := by omega
    obtain ⟨b, o, rfl, hc⟩ := hA (i + 1) (by omega)
    have e : K.nxt l i = l[i + 1] := by unfold K.nxt; rw [List.getD_eq_getElem?_getD, List.getElem?_eq_getElem (by omega)]; rfl
    rw [e]
    generalize l[i + 1] = z at *
    clear e hA hi h
    go_enter Tryz.func106, Tryz.ntmps106
    go_wp2_with fail
    go_ret
    exact ⟨rfl, rfl⟩
set_option maxRecDepth 100000 in
set_option maxHeartbeats 400000 in
theorem xmade_any {w : World} {sp p c : Nat} (h : Spc w sp p c) (hc1 : 1 ≤ c) (hc : c ≤ 4096) : Calls Tryz.prog 66 #[Ptr sp] w (Tells (.bool true) w) := by
  have H1 := hid (smaps_any h hc)
  have hm : 0 < G.maps c := G.maps_pos hc1
  generalize G.maps c = m at *
  clear h hc hc1
  go_enter Tryz.func66, Tryz.ntmps66
  go_wp2_with (go_at_call 36; refine H1.out.mono ?_; rintro e w1 ⟨rfl, hw⟩; rw [hw]; clear hw)
  go_ret
  exact ⟨rfl, rfl⟩
end Go.Proofs.YtjlennpoaefllaaGreatDoor

/- The cell of a blob's page. -/
namespace Go.Proofs.YtjlennpoaefllaaGreatDoor
open Go.RowKit

/-- What onlyCell leaves: a cell in memory of its own. -/
def PXc (w0 : World) (X : List (Nat × Obj)) (p dp : Nat) (s : F.Po) (D : dSt) (n kk z : Nat) (x : List UInt8) (e : Ending) (w' : World) : Prop := ∃ a cap, e = .returned (.tuple #[.slice a x.length cap, .int .i64 (z : Int)]) ∧ Hid (At w' a x ∧ x.length ≤ cap ∧ (a = none → cap = 0) ∧ LpX w0 w' X p dp s D n kk ∧ ∀ b o, a = some ⟨b, o, none⟩ → ∀ x ∈ X, x.1 ≠ b)
theorem PXc.no {w0 w' : World} {X : List (Nat × Obj)} {p dp : Nat} {s : F.Po} {D : dSt} {n kk z : Nat} (h : LpX w0 w' X p dp s D n kk) : PXc w0 X p dp s D n kk z [] (.returned (.tuple #[.slice none 0 0, .int .i64 (z : Int)])) w' := ⟨none, 0, rfl, At.nil _ _, Nat.le_refl _, fun _ => rfl, h, fun b o e => by cases e⟩
set_option maxRecDepth 100000 in
set_option maxHeartbeats 2000000 in
theorem xcell_any {w0 w : World} {X : List (Nat × Obj)} {p dp : Nat} {s : F.Po} {D : dSt} {n kk : Nat} (h : LpX w0 w X p dp s D n kk) (hn : n + 1 ≤ 1000000) (hk9 : kk ≤ 900) (no : Int) :
    Calls Tryz.prog 109 #[Ptr p, .int .i64 no] w (PXc w0 X p dp (F.getS s D no) D (n + 1) kk (K.cellE s D no) (K.cellB s D no)) := by
  have HG := lx_get h hn hk9 no
  by_cases hE : F.getE s D no = 0
  · rw [hE] at HG
    have HG := hid HG
    have hcE : K.cellE s D no = if M.kindP (F.getB s D no) = 4 ∧ (M.cellsP (F.getB s D no)).length = 1 then 0 else 22 := by unfold K.cellE; rw [if_pos hE]
    have hcB : K.cellB s D no = if M.kindP (F.getB s D no) = 4 ∧ (M.cellsP (F.getB s D no)).length = 1 then (M.cellsP (F.getB s D no)).headD [] else [] := by
      unfold K.cellB
      rw [hcE]
      by_cases q : M.kindP (F.getB s D no) = 4 ∧ (M.cellsP (F.getB s D no)).length = 1
      · rw [if_pos q, if_pos q]; rfl
      · rw [if_neg q, if_neg q]; rfl
    rw [hcE, hcB]
    generalize F.getB s D no = bs at *
    generalize F.getS s D no = s' at *
    have HC2 := hid (fun (a : Option Addr) (cap : Nat) (w1 : World) (h1 : bs.length ≤ cap) (h2 : At w1 a bs) => gcells_rows a bs bs.length cap w1 rfl h1 h2)
    have HK2 := hid (fun (a : Option Addr) (cap : Nat) (w1 : World) (h1 : bs.length ≤ cap) (h2 : At w1 a bs) => gkind_any a bs bs.length cap w1 rfl h1 h2)
    obtain ⟨bl, hbl⟩ : ∃ bl, bl = bs.length := ⟨_, rfl⟩
    rw [← hbl] at HC2 HK2
    have HL := hid hbl
    clear h hE hn hk9 hbl hcE hcB
    by_cases qk : M.kindP bs = 4
    · rw [qk] at HK2
      by_cases ql : (M.cellsP bs).length = 1
      · rw [if_pos ⟨qk, ql⟩, if_pos ⟨qk, ql⟩]
        obtain ⟨x, hx⟩ := List.length_eq_one_iff.1 ql
        rw [hx] at HC2 ⊢
        show Calls Tryz.prog 109 #[Ptr p, .int .i64 no] w (PXc w0 X p dp s' D (n + 1) kk 0 x)
        obtain ⟨xl, hxl'⟩ : ∃ xl, xl = x.length := ⟨_, rfl⟩
        have HL2 := hid hxl'
        unfold Ptr at *
        clear qk ql hx hxl'
        go_enter Tryz.func109, Tryz.ntmps109
        go_wp2_with (first
          | (go_at_call 114; refine HG.out.mono ?_; rintro e w1 ⟨v, rfl, H1⟩; obtain ⟨a, cap, hv, hc1, ha1⟩ := row_slice H1.out.1; rw [← HL.out] at hv hc1; subst hv; have HA1 := hid (And.intro hc1 ha1); clear hc1 ha1)
          | (go_at_call 115; refine (HC2.out a cap w1 HA1.out.1 HA1.out.2).mono ?_; rintro e w2 ⟨ca, cc, hs, rfl, H2⟩
             obtain ⟨y, rfl⟩ : ∃ y, hs = [y] := by (have q := congrArg List.length H2.out.1; simp at q; exact List.length_eq_one_iff.1 q)
             obtain ⟨xa, xb, xc⟩ := y
             obtain rfl : xb = x := by have q := H2.out.1; simpa using q
             have HQ := hid (H2.out.2.1.at_ 0 (.slice xa xb.length xc) rfl)
             obtain ⟨cb, co, hca, _, hcc⟩ := HQ.out
             have hca' : ca = some ⟨cb, co, none⟩ := hca
             subst hca'
             rw [← HL2.out] at hcc
             have HCC := hid hcc; clear hcc hca)
          | (go_at_call 116; refine (HK2.out a cap w2 HA1.out.1 (HA1.out.2.adds H2.out.2.2.1)).mono ?_; rintro e w3 ⟨rfl, h3⟩; have H3 := hid h3; clear h3
             have hc3 : w3.cell? ⟨cb, co, none⟩ = some (.slice xa xl xc) := below_adds H3.out HCC.out))
        go_ret2
        have hrow := row_touch (H2.out.2.2.2.2 _ List.mem_cons_self) H3.out (fun _ _ => id)
        obtain ⟨xa', xc', e1, e2, e3⟩ := row_slice hrow
        cases e1
        refine ⟨xa, xc, by rw [HL2.out]; rfl, e3, e2, fun e => ?_, H1.out.2.add (H2.out.2.2.1.trans H3.out), fun b o e x hx c => ?_⟩
        · rcases hrow.2 with ⟨e4, _⟩ | ⟨g, cap', cur, e4, _⟩
          · injection e4
          · cases e4; cases e
        · have hl := (Array.getElem?_eq_some_iff.1 (H1.out.2.at x hx)).1
          rcases hrow.2 with ⟨e4, _⟩ | ⟨g, cap', cur, e4, hb, _⟩
          · injection e4 with q1
            have q2 : xa = none := q1
            rw [q2] at e
            cases e
          · injection e4 with q1
            have q2 : xa = some ⟨g, 0, none⟩ := q1
            rw [q2] at e
            cases e
            omega
      · have qb : (((M.cellsP bs).length : Int) != 1) = true := by simp; omega
        have qc : ¬ ((M.cellsP bs).length : Int) = 1 := by omega
        rw [if_neg (fun c => ql c.2), if_neg (fun c => ql c.2)]
        unfold Ptr at *
        clear qk ql
        go_enter Tryz.func109, Tryz.ntmps109
        go_wp2_with (first
          | (go_at_call 114; refine HG.out.mono ?_; rintro e w1 ⟨v, rfl, H1⟩; obtain ⟨a, cap, hv, hc1, ha1⟩ := row_slice H1.out.1; rw [← HL.out] at hv hc1; subst hv; have HA1 := hid (And.intro hc1 ha1); clear hc1 ha1)
          | (go_at_call 115; refine (HC2.out a cap w1 HA1.out.1 HA1.out.2).mono ?_; rintro e w2 ⟨ca, cc, hs, rfl, H2⟩)
          | (go_at_call 116; refine (HK2.out a cap w2 HA1.out.1 (HA1.out.2.adds H2.out.2.2.1)).mono ?_; rintro e w3 ⟨rfl, h3⟩; have H3 := hid h3; clear h3))
        go_ret2
        exact PXc.no (H1.out.2.add (H2.out.2.2.1.trans H3.out))
    · have qb : (((M.kindP bs).toNat : Int) != 4) = true := by
        simp
        intro e
        exact qk (UInt8.toNat_inj.1 (by rw [show ((4 : UInt8).toNat) = 4 from rfl]; omega))
      have qc : ¬ ((M.kindP bs).toNat : Int) = 4 := by simpa using qb
      rw [if_neg (fun c => qk c.1), if_neg (fun c => qk c.1)]
      unfold Ptr at *
      clear qk
      go_enter Tryz.func109, Tryz.ntmps109
      go_wp2_with (first
        | (go_at_call 114; refine HG.out.mono ?_; rintro e w1 ⟨v, rfl, H1⟩; obtain ⟨a, cap, hv, hc1, ha1⟩ := row_slice H1.out.1; rw [← HL.out] at hv hc1; subst hv; have HA1 := hid (And.intro hc1 ha1); clear hc1 ha1)
        | (go_at_call 115; refine (HC2.out a cap w1 HA1.out.1 HA1.out.2).mono ?_; rintro e w2 ⟨ca, cc, hs, rfl, H2⟩)
        | (go_at_call 116; refine (HK2.out a cap w2 HA1.out.1 (HA1.out.2.adds H2.out.2.2.1)).mono ?_; rintro e w3 ⟨rfl, h3⟩; have H3 := hid h3; clear h3))
      go_ret2
      exact PXc.no (H1.out.2.add (H2.out.2.2.1.trans H3.out))
  · have hz2 : K.cellE s D no = F.getE s D no := by unfold K.cellE; rw [if_neg hE]
    have hB : K.cellB s D no = [] := by unfold K.cellB; rw [if_neg (by rw [hz2]; exact hE)]
    rw [hz2, hB]
    have HG := hid HG
    have hE1 : ((F.getE s D no : Int) != 0) = true := by simp; omega
    have hE2 : ¬ (F.getE s D no : Int) = 0 := by omega
    generalize F.getE s D no = ze at *
    generalize F.getB s D no = bs at *
    generalize F.getS s D no = s' at *
    unfold Ptr at *
    clear h hn hk9 hz2 hE hB
    go_enter Tryz.func109, Tryz.ntmps109
    go_wp2_with (go_at_call 114; refine HG.out.mono ?_; rintro e w1 ⟨v, rfl, H1⟩; obtain ⟨a, cap, hv, hc1, ha1⟩ := row_slice H1.out.1; subst hv; clear hc1 ha1)
    go_ret2
    exact PXc.no H1.out.2
end Go.Proofs.YtjlennpoaefllaaGreatDoor

/- Rows of one's own among the blocks that are nobody's. -/
namespace Go.Proofs.YtjlennpoaefllaaGreatDoor
open Go.RowKit

set_option maxRecDepth 100000 in
/-- A row that lies among the blocks that are nobody's: its block stays one of them. -/
theorem rowBk_same {w0 w w' : World} {X Y : List (Nat × Obj)} {p dp : Nat} {s : F.Po} {D : dSt} {n k B e m : Nat} {v : Value} {xs : List Value} (h' : LpX w0 w' Y p dp s D n k) (hr : w.ownsRow B e 1 v m xs) (hY : ∀ y ∈ rowBk w v, y ∈ Y) (_ : X = X) : rowBk w' v = rowBk w v := by
  rcases hr.2 with ⟨rfl, _⟩ | ⟨g, cap, cur, rfl, hb, hg, rest⟩
  · rfl
  · have h1 : (g, Obj.cells cur e (0, 0)) ∈ rowBk w (.slice (some ⟨g, 0, none⟩) m cap) := mem_rowBk.2 ⟨rfl, hg⟩
    have h2 := h'.at _ (hY _ h1)
    unfold rowBk
    show (match w'.heap[g]? with
      | some o => [(g, o)]
      | none => []) = (match w.heap[g]? with
      | some o => [(g, o)]
      | none => [])
    rw [h2, hg]
/-- A row's block is in the list. -/
theorem row_inX {w : World} {X : List (Nat × Obj)} {B e m : Nat} {v : Value} {xs : List Value} (hr : w.ownsRow B e 1 v m xs) (hX : ∀ y ∈ rowBk w v, y ∈ X) : ∀ j, v.ownBlock = some j → ∃ x ∈ X, x.1 = j := fun j hj => by
  obtain ⟨x, hx, e⟩ := row_in hr hj
  exact ⟨x, hX x hx, e⟩
set_option maxRecDepth 100000 in
/-- The row has grown, or another one has come in its place. -/
theorem LpX.grow {w0 w w' : World} {X : List (Nat × Obj)} {p dp : Nat} {s : F.Po} {D : dSt} {n k e m m' : Nat} {v v' : Value} {xs xs' : List Value} (h : LpX w0 w (rowBk w v ++ X) p dp s D n k) (hr : w.ownsRow w0.heap.size e 1 v m xs) (hT : Touch (fun j => v.ownBlock = some j) w w') (hr' : w'.ownsRow w0.heap.size e 1 v' m' xs') (ho : ∀ j, v'.ownBlock = some j → v.ownBlock = some j ∨ w.heap.size ≤ j) (hX : ∀ x ∈ X, v.ownBlock ≠ some x.1) : LpX w0 w' (rowBk w' v' ++ X) p dp s D n k := by
  have _ := hr'
  refine h.turns hT (fun j hj => ?_) (fun j hj => (row_low hr hj).1) (fun y hy => ?_)
  · obtain ⟨x, hx, e⟩ := row_in hr hj
    exact ⟨x, List.mem_append_left _ hx, e⟩
  · rcases List.mem_append.1 hy with hy | hy
    · obtain ⟨e1, e2⟩ := mem_rowBk.1 hy
      refine ⟨?_, e2⟩
      rcases ho _ e1 with c | c
      · obtain ⟨x, hx, e⟩ := row_in hr c
        exact .inl ⟨x, List.mem_append_left _ hx, e⟩
      · exact .inr c
    · exact ⟨.inl ⟨y, List.mem_append_right _ hy, rfl⟩, by rw [hT.block y.1 (Array.getElem?_eq_some_iff.1 (h.at y (List.mem_append_right _ hy))).1 (hX y hy)]; exact h.at y (List.mem_append_right _ hy)⟩
/-- The blocks of X are not the row's, still. -/
theorem grow_apart {w0 w : World} {X : List (Nat × Obj)} {Y : List (Nat × Obj)} {p dp : Nat} {s : F.Po} {D : dSt} {n k : Nat} {v v' : Value} (h : LpX w0 w (Y ++ X) p dp s D n k) (ho : ∀ j, v'.ownBlock = some j → v.ownBlock = some j ∨ w.heap.size ≤ j) (hX : ∀ x ∈ X, v.ownBlock ≠ some x.1) : ∀ x ∈ X, v'.ownBlock ≠ some x.1 := fun x hx e => by
  have hl := (Array.getElem?_eq_some_iff.1 (h.at x (List.mem_append_right _ hx))).1
  rcases ho _ e with c | c
  · exact hX x hx c
  · omega
set_option maxRecDepth 100000 in
/-- Numbers in a row, grown by one. -/
theorem I_snoc (zs : List Int) (z : Int) : I (zs ++ [z]) = I zs ++ [.int .i64 z] := by simp [I]
set_option maxRecDepth 100000 in
/-- A number is put behind numbers of one's own; where these lie then. -/
theorem append_ki {w : World} {ops : Array Oper} {rest : List Oper} {o : Oper} {act : Act} {Q : Exit → Act → World → Prop} (hgd : o.guard = none) (s x : Operand)
    (ho : o.op = .call { callee := .builtin .append, args := #[s, x], argTypes := #[64, 64] }) (B : Nat) (v : Value) (n : Nat) (xs : List Value) (hs : act.eval s = v) (hown : w.ownsRow B 3 1 v n xs)
    (g : Nat) (z : Int) (hx : act.eval x = .slice (some ⟨g, 0, none⟩) 1 1) (hc : w.cell? ⟨g, 0, none⟩ = some (.int .i64 z)) (hlen : n ≤ 10000000) (hB : B ≤ w.heap.size)
    (h : ∀ v' w', w'.ownsRow B 3 1 v' (n + 1) (xs ++ [.int .i64 z]) → Touch (fun j => v.ownBlock = some j) w w' → (∀ j, v'.ownBlock = some j → v.ownBlock = some j ∨ w.heap.size ≤ j) → wpList Tryz.prog ops Q rest (act.put o.dst v') w') : wpList Tryz.prog ops Q (o :: rest) act w := by
  obtain ⟨i0, hi, hz0, hz1, hz2⟩ := info3
  refine wpList_append_own_at _ hgd s x 64 ho B 3 i0 (.int .i64 0) 1 8 Tryz.underlying64 hi hz0 hz1 hz2 rfl (by decide) v n xs hs hown ⟨g, 0, none⟩ 1 1 [.int .i64 z] hx rfl ?_ (fun y hy => by rw [List.mem_singleton.1 hy]; rfl) (by unfold maxLen; omega) (by omega) hB (fun v' w' h1 h2 _ h4 => h v' w' h1 (grown_touch h2) (fun j hj => ?_))
  · intro j y hj
    match j, hj with
    | 0, hj =>
      obtain rfl : Value.int .i64 z = y := by simpa using hj
      rw [Addr.add_mid]; exact hc
  · rcases h4 with c | c
    · rw [c] at hj; exact .inl hj
    · rw [c] at hj; cases hj; exact .inr (Nat.le_refl _)
set_option maxRecDepth 100000 in
/-- Bytes are put behind bytes of one's own; where these lie then. -/
theorem append_kb {w : World} {ops : Array Oper} {rest : List Oper} {o : Oper} {act : Act} {Q : Exit → Act → World → Prop} (hgd : o.guard = none) (s x : Operand)
    (ho : o.op = .call { callee := .builtin .append, args := #[s, x], argTypes := #[43, 43] }) (B : Nat) (v : Value) (n : Nat) (xs : List Value) (hs : act.eval s = v) (hown : w.ownsRow B 5 1 v n xs)
    (ad : Addr) (bs : List UInt8) (m cap : Nat) (hm : bs.length = m) (hx : act.eval x = .slice (some ad) m cap) (hA : At w (some ad) bs) (hlen : n + m ≤ 10000000) (hB : B ≤ w.heap.size)
    (h : ∀ v' w', w'.ownsRow B 5 1 v' (n + m) (xs ++ S bs) → Touch (fun j => v.ownBlock = some j) w w' → (∀ j, v'.ownBlock = some j → v.ownBlock = some j ∨ w.heap.size ≤ j) → wpList Tryz.prog ops Q rest (act.put o.dst v') w') : wpList Tryz.prog ops Q (o :: rest) act w := by
  subst hm
  obtain ⟨i0, hi, hz0, hz1, hz2⟩ := info5all
  refine wpList_append_own_at _ hgd s x 43 ho B 5 i0 (.int .u8 0) 1 1 Tryz.underlying43 hi hz0 hz1 hz2 rfl (by decide) v n xs hs hown ad bs.length cap (S bs) hx (by rw [length_S, Nat.mul_one]) ?_ (one_S bs) (by unfold maxLen; omega) (by omega) hB (fun v' w' h1 h2 _ h4 => h v' w' h1 (grown_touch h2) (fun j hj => ?_))
  · intro j u hu
    rw [S_get] at hu
    cases hj : bs[j]? with
    | none => rw [hj] at hu; cases hu
    | some c =>
      rw [hj] at hu
      obtain ⟨b, o', e, hc⟩ := hA j c hj
      obtain rfl : ad = ⟨b, o', none⟩ := by simpa using e
      rw [Addr.add_mid, hc]
      exact hu
  · rcases h4 with c | c
    · rw [c] at hj; exact .inl hj
    · rw [c] at hj; cases hj; exact .inr (Nat.le_refl _)
/-- Numbers of one's own, among the blocks that are nobody's. -/
structure Ns (w0 w : World) (X : List (Nat × Obj)) (p dp : Nat) (s : F.Po) (D : dSt) (n k : Nat) (v : Value) (zs : List Int) : Prop where
  lpx : LpX w0 w (rowBk w v ++ X) p dp s D n k
  row : w.ownsRow w0.heap.size 3 1 v zs.length (I zs)
  apart : ∀ x ∈ X, v.ownBlock ≠ some x.1
theorem Ns.x {w0 w : World} {X : List (Nat × Obj)} {p dp : Nat} {s : F.Po} {D : dSt} {n k : Nat} {v : Value} {zs : List Int} (h : Ns w0 w X p dp s D n k v zs) : LpX w0 w X p dp s D n k := h.lpx.fewer (fun _ hy => List.mem_append_right _ hy)
theorem Ns.le {w0 w : World} {X : List (Nat × Obj)} {p dp : Nat} {s : F.Po} {D : dSt} {n n' k : Nat} {v : Value} {zs : List Int} (h : Ns w0 w X p dp s D n k v zs) (hn : n ≤ n') : Ns w0 w X p dp s D n' k v zs := ⟨h.lpx.le hn, h.row, h.apart⟩
set_option maxRecDepth 100000 in
/-- Another call has been made. -/
theorem Ns.next {w0 w w' : World} {X : List (Nat × Obj)} {p dp : Nat} {s s' : F.Po} {D : dSt} {n n' k : Nat} {v : Value} {zs : List Int} (h : Ns w0 w X p dp s D n k v zs) (h' : LpX w0 w' (rowBk w v ++ X) p dp s' D n' k) : Ns w0 w' X p dp s' D n' k v zs := by
  have e := rowBk_same (X := X) h' h.row (fun y hy => List.mem_append_left _ hy) rfl
  exact ⟨by rw [e]; exact h', row_keepX h.lpx h' h.row (row_inX h.row (fun y hy => List.mem_append_left _ hy)), h.apart⟩
theorem Ns.adds {w0 w w' : World} {X : List (Nat × Obj)} {p dp : Nat} {s : F.Po} {D : dSt} {n k : Nat} {v : Value} {zs : List Int} (h : Ns w0 w X p dp s D n k v zs) (hA : Adds w w') : Ns w0 w' X p dp s D n k v zs := h.next (h.lpx.add hA)
set_option maxRecDepth 100000 in
/-- A number has been put behind them. -/
theorem Ns.snoc {w0 w w' : World} {X : List (Nat × Obj)} {p dp : Nat} {s : F.Po} {D : dSt} {n k m : Nat} {v v' : Value} {zs : List Int} {z : Int} (h : Ns w0 w X p dp s D n k v zs) (hm : m = zs.length) (hr : w'.ownsRow w0.heap.size 3 1 v' (m + 1) (I zs ++ [.int .i64 z])) (hT : Touch (fun j => v.ownBlock = some j) w w') (ho : ∀ j, v'.ownBlock = some j → v.ownBlock = some j ∨ w.heap.size ≤ j) : Ns w0 w' X p dp s D n k v' (zs ++ [z]) := by
  subst hm
  have hr' : w'.ownsRow w0.heap.size 3 1 v' (zs ++ [z]).length (I (zs ++ [z])) := by rw [I_snoc, List.length_append]; exact hr
  exact ⟨h.lpx.grow h.row hT hr' ho h.apart, hr', grow_apart h.lpx ho h.apart⟩
theorem Ns.ag {w0 w : World} {X : List (Nat × Obj)} {p dp : Nat} {s : F.Po} {D : dSt} {n k : Nat} {v : Value} {zs : List Int} (h : Ns w0 w X p dp s D n k v zs) : AgX (rowBk w v ++ X) v zs := row_agx h.lpx h.row (row_inX h.row (fun _ hy => List.mem_append_left _ hy))
end Go.Proofs.YtjlennpoaefllaaGreatDoor

/- The reference's Free, Taken of one map. -/
namespace Go.Proofs.YtjlennpoaefllaaGreatDoor
open Go.RowKit

end Go.Proofs.YtjlennpoaefllaaGreatDoor

/- A pair of pools is opened. -/
namespace Go.Proofs.YtjlennpoaefllaaGreatDoor
open Go.RowKit
/-- Both disks, without pools. -/
structure Pd11 (w0 w : World) (X : List (Nat × Obj)) (OD OR : Nat → Prop) (d r : Nat) (D D' : dSt) : Prop where
  dk : IsDO w OD d D
  ro : IsRO w OR r D'
  ap : ∀ k, OD k → ¬ OR k
  low : ∀ k, OD k ∨ OR k → w0.heap.size ≤ k
  lt : ∀ k, OD k ∨ OR k → k < w.heap.size
  base : Adds w0 w
  oth : ∀ x ∈ X, w.heap[x.1]? = some x.2 ∧ ¬ (OD x.1 ∨ OR x.1)
def PdE11 (w0 w : World) (X : List (Nat × Obj)) (d r : Nat) (D D' : dSt) : Prop := ∃ OD OR, Pd11 w0 w X OD OR d r D D'
theorem Pd11.adds {w0 w w' : World} {X : List (Nat × Obj)} {OD OR : Nat → Prop} {d r : Nat} {D D' : dSt} (h : Pd11 w0 w X OD OR d r D D') (hA : Adds w w') : Pd11 w0 w' X OD OR d r D D' :=
  ⟨h.dk.adds hA, h.ro.adds hA, h.ap, h.low, fun k c => Nat.lt_of_lt_of_le (h.lt k c) hA.size, h.base.trans hA, fun x hx => ⟨hA.at' (h.oth x hx).1 id, (h.oth x hx).2⟩⟩
set_option maxRecDepth 100000 in
theorem PwE.disks {w0 w : World} {X : List (Nat × Obj)} {p d q r : Nat} {s s' : F.Po} {D D' : dSt} {n k : Nat} (h : PwE w0 w X p d q r s s' D D' n k) : PdE11 w0 w X d r D D' := by
  obtain ⟨OL, OD, OQ, OR, h⟩ := h
  refine ⟨OD, OR, h.wl.disk, h.ro, fun k c c' => h.ap k (.inr c) (.inr c'), fun k c => ?_, fun k c => ?_, h.wl.adds, fun x hx => ⟨(h.oth x hx).1, fun c => (h.oth x hx).2 ?_⟩⟩
  · rcases c with c | c
    · exact h.wl.low k (.inr c)
    · exact h.low k (.inr c)
  · rcases c with c | c
    · exact h.wl.lt k (.inr c)
    · exact h.lt k (.inr c)
  · rcases c with c | c
    · exact .inl (.inr c)
    · exact .inr (.inr c)
set_option maxRecDepth 100000 in
/-- Pools on both disks. -/
theorem Pd11.pools {w0 w w1 w2 : World} {X : List (Nat × Obj)} {OD OR : Nat → Prop} {p d q r : Nat} {s : F.Po} {D D' : dSt} {k : Nat} (h : Pd11 w0 w X OD OR d r D D') (h1 : IsPool w1 (fun k => w.heap.size ≤ k ∧ k < w1.heap.size) p d s 0 ∧ Adds w w1) (h2 : IsQ w2 (fun k => w1.heap.size ≤ k ∧ k < w2.heap.size) q r s ∧ Adds w1 w2) (hk : DOk D k) (hT : Tab w0) (hg : F.Good s) (hp : POk s D) : PwE w0 w2 X p d q r s s D D' 0 k := by
  obtain ⟨hq, hA2⟩ := h2
  have z1 := h1.2.size
  have z2 := hA2.size
  have z0 := h.base.size
  have h' := h.adds (h1.2.trans hA2)
  refine ⟨_, OD, _, OR, ⟨h1.1.adds hA2, h'.dk, hk, fun k c c' => ?_, fun k c => ?_, fun k c => ?_, h'.base, hT, hg, hp⟩, hq, h'.ro, fun k c c' => ?_, fun k c c' => ?_, fun k c => ?_, fun k c => ?_, fun x hx => ⟨(h'.oth x hx).1, fun c => ?_⟩⟩
  · have := h.lt k (.inl c'); omega
  · rcases c with c | c
    · omega
    · exact h.low k (.inl c)
  · rcases c with c | c
    · omega
    · have := h.lt k (.inl c); omega
  · have := h.lt k (.inr c'); omega
  · rcases c with c | c <;> rcases c' with c' | c'
    · omega
    · have := h.lt k (.inr c'); omega
    · have := h.lt k (.inl c); omega
    · exact h.ap k c c'
  · rcases c with c | c
    · omega
    · exact h.low k (.inr c)
  · rcases c with c | c
    · exact c.2
    · have := h.lt k (.inr c); omega
  · have hx1 := (Array.getElem?_eq_some_iff.1 (h.oth x hx).1).1
    have hx2 := (h.oth x hx).2
    rcases c with (c | c) | c | c
    · omega
    · exact hx2 (.inl c)
    · omega
    · exact hx2 (.inr c)
theorem good_new (fr ct mo : Int) (h : 1 ≤ mo) : F.Good ⟨fr, ct, mo, []⟩ := ⟨fun f hf => (by cases hf), fun f hf => (by cases hf), fun f hf => (by cases hf), by show (([] : List F.Fr).length : Int) ≤ mo; simp; omega, List.nodup_nil⟩
end Go.Proofs.YtjlennpoaefllaaGreatDoor
