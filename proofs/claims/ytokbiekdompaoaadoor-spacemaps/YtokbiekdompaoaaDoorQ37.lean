/- getMap and putMap: a map is got out of the pool, and put into it. -/
import Derived.Test.YtokbiekdompaoaaDoorQ35
import Derived.Test.YtokbiekdompaoaaDoorQ36
namespace Go.Proofs.YtokbiekdompaoaaDoor
open Go.RowKit

set_option maxRecDepth 100000 in
theorem LpX.spc {w0 w : World} {X : List (Nat × Obj)} {p dp : Nat} {s : F.Po} {D : dSt} {n kk sp : Nat} (h : LpX w0 w X p dp s D n kk) (hX : (sp, SBox p) ∈ X) : Spc w sp p (G.cnt s) := by
  have hb := h.at _ hX
  obtain ⟨O, OD, h, _⟩ := h
  obtain ⟨hb', y, Gs, hp, _⟩ := h.pool
  exact ⟨hb, dp, s, hb', y, hp.box, by unfold G.cnt; have := h.pok.ct1; omega⟩
theorem LpX.pok {w0 w : World} {X : List (Nat × Obj)} {p dp : Nat} {s : F.Po} {D : dSt} {n kk : Nat} (h : LpX w0 w X p dp s D n kk) : POk s D := h.e.pok
set_option maxRecDepth 100000 in
theorem POk.cnt {s : F.Po} {D : dSt} (h : POk s D) : 1 ≤ G.cnt s ∧ G.cnt s ≤ 4096 ∧ (G.cnt s : Int) = s.ct := by
  have := h.ct1; have := h.fit; have := h.fr0; have := h.size
  unfold G.cnt
  omega
set_option maxRecDepth 100000 in
/-- Slices of rows. -/
theorem row_slice {w : World} {B : Nat} {v : Value} {bs : List UInt8} (h : w.ownsRow B 5 1 v bs.length (S bs)) : ∃ a cap, v = .slice a bs.length cap ∧ bs.length ≤ cap ∧ At w a bs := by
  obtain ⟨a, cap, hv, hc, _, hq⟩ := own_cq h
  refine ⟨a, cap, hv, hc, fun j c hj => ?_⟩
  obtain ⟨b, o, e, _, hcell⟩ := hq j (.int .u8 (c.toNat : Int)) (by rw [S_get, hj]; rfl)
  exact ⟨b, o, e, hcell⟩
/-- A map that is got. -/
def PGm (w0 : World) (X : List (Nat × Obj)) (p dp : Nat) (s : F.Po) (D : dSt) (n kk : Nat) (bs : List UInt8) (e : Ending) (w' : World) : Prop := ∃ g cap cur, e = .returned (.tuple #[.slice (some ⟨g, 0, none⟩) bs.length cap, .int .i64 0]) ∧ Hid (cur.toList.take bs.length = S bs ∧ bs.length ≤ cap ∧ LpX w0 w' ((g, .cells cur 5 (0, 0)) :: X) p dp s D n kk ∧ w0.heap.size ≤ g ∧ ∀ x ∈ X, x.1 ≠ g)
set_option maxRecDepth 100000 in
set_option maxHeartbeats 2000000 in
theorem sget_ok {w0 w : World} {X : List (Nat × Obj)} {p dp : Nat} {s : F.Po} {D : dSt} {n kk sp : Nat} (h : LpX w0 w X p dp s D n kk) (hX : (sp, SBox p) ∈ X) (hn : n + 1 ≤ 1000000) (hk9 : kk ≤ 900) {k : Nat} (hk : k < G.maps (G.cnt s)) (hz : G.mapE s D k = 0) :
    Calls Tryd.prog 27 #[Ptr sp, .int .i64 (k : Int)] w (PGm w0 X p dp (F.getS s D k) D (n + 1) kk (G.mapB s D k)) := by
  obtain ⟨hE, _, hmay, hcells, hkind⟩ := G.mapB_may hz
  have HG := lx_get h hn hk9 (k : Int)
  rw [hE] at HG
  have HG := hid HG
  have hc := h.pok.cnt
  have hct := G.get_ct s D (k : Int)
  generalize G.mapB s D k = x at *
  generalize F.getB s D k = bs at *
  generalize F.getS s D k = s' at *
  have HC2 := hid (fun (a : Option Addr) (cap : Nat) (w1 : World) (h1 : bs.length ≤ cap) (h2 : At w1 a bs) => show Calls Tryd.prog 39 #[.slice a bs.length cap] w1 (PCellsR w1 [x]) by rw [← hcells]; exact gcells_rows a bs bs.length cap w1 rfl h1 h2)
  have HK2 := hid (fun (a : Option Addr) (cap : Nat) (w1 : World) (h1 : bs.length ≤ cap) (h2 : At w1 a bs) => show Calls Tryd.prog 40 #[.slice a bs.length cap] w1 (Adding (.int .u8 2) w1) by have := gkind_any a bs bs.length cap w1 rfl h1 h2; rw [hkind] at this; exact this)
  have hxl := G.may_len hmay
  have hx1 := G.cells_pos hk
  have hx2 := G.cells_le (G.cnt s) k
  have HM := hid (fun (w1 : World) (a : Option Addr) (cap : Nat) (h1 : Spc w1 sp p (G.cnt s)) (h2 : At w1 a x) => show Calls Tryd.prog 41 #[Ptr sp, .int .i64 (k : Int), .slice a x.length cap] w1 (Adding (.bool true) w1) by have := smay_any h1 hc.2.1 hk a x x.length cap rfl h2 (by omega); rw [hmay] at this; exact this)
  have c0 : w.cell? ⟨sp, 0, none⟩ = some (Ptr p) := by rw [cellOf (h.at _ hX)]; rfl
  obtain ⟨xl, hxl'⟩ : ∃ xl, xl = x.length := ⟨_, rfl⟩
  obtain ⟨bl, hbl⟩ : ∃ bl, bl = bs.length := ⟨_, rfl⟩
  have HL := hid (And.intro hxl' (And.intro hbl (And.intro (show 1 ≤ xl by omega) hct)))
  rw [← hxl'] at HM
  rw [← hbl] at HC2 HK2
  have HX := hid hX
  unfold Ptr at *
  clear h hE hmay hcells hkind hz hk hc hxl hx1 hx2 hxl' hbl hX hct hn hk9
  go_enter Tryd.func27, Tryd.ntmps27
  go_wp2_with (first
    | (go_at_call 38; refine HG.out.mono ?_; rintro e w1 ⟨v, rfl, H1⟩; obtain ⟨a, cap, hv, hc1, ha1⟩ := row_slice H1.out.1; rw [← HL.out.2.1] at hv hc1; subst hv; have HA1 := hid (And.intro hc1 ha1); clear hc1 ha1)
    | (go_at_call 39; refine (HC2.out a cap w1 HA1.out.1 HA1.out.2).mono ?_; rintro e w2 ⟨ca, cc, hs, rfl, H2⟩
       obtain ⟨y, rfl⟩ : ∃ y, hs = [y] := by (have q := congrArg List.length H2.out.1; simp at q; exact List.length_eq_one_iff.1 q)
       obtain ⟨xa, xb, xc⟩ := y
       obtain rfl : xb = x := by have q := H2.out.1; simpa using q
       have HQ := hid (H2.out.2.1.at_ 0 (.slice xa xb.length xc) rfl)
       obtain ⟨cb, co, hca, _, hcc⟩ := HQ.out
       have hca' : ca = some ⟨cb, co, none⟩ := hca
       subst hca'
       rw [← HL.out.1] at hcc
       have HCC := hid hcc; clear hcc hca)
    | (go_at_call 40; refine (HK2.out a cap w2 HA1.out.1 (HA1.out.2.adds H2.out.2.2.1)).mono ?_; rintro e w3 ⟨rfl, h3⟩; have H3 := hid h3; clear h3
       have hc3 : w3.cell? ⟨cb, co, none⟩ = some (.slice xa xl xc) := below_adds H3.out HCC.out)
    | (go_at_call 41; refine (HM.out w3 xa xc ((H1.out.2.spc HX.out).adds (H2.out.2.2.1.trans H3.out) |> fun q => by rw [HL.out.2.2.2] at q; exact q) ((At.owns (H2.out.2.2.2.2 _ List.mem_cons_self)).adds H3.out)).mono ?_; rintro e w4 ⟨rfl, h4⟩; have H4 := hid h4; clear h4
       have hc4 : w4.cell? ⟨cb, co, none⟩ = some (.slice xa xl xc) := below_adds H4.out hc3))
  go_ret2
  have hA : Adds w2 w4 := H3.out.trans H4.out
  have hrow := row_touch (H2.out.2.2.2.2 _ List.mem_cons_self) hA (fun _ _ => id)
  rcases hrow.2 with ⟨_, h0⟩ | ⟨g, cap', cur, e1, hg1, hg2, hg3, hg4, hg5, hg6⟩
  · have := HL.out.1; have := HL.out.2.2.1; have h0' : xb.length = 0 := h0; omega
  · have e2 : Value.slice xa xb.length xc = .slice (some ⟨g, 0, none⟩) xb.length cap' := e1
    cases e2
    refine ⟨g, xc, cur, by rw [HL.out.1]; rfl, ?_, hg3, H1.out.2.more (H2.out.2.2.1.trans hA) g _ hg2 hg1, ?_⟩
    · rw [Nat.mul_one] at hg6; exact hg6
    · refine ⟨by have := H1.out.2.e.adds.size; omega, fun x hx e => ?_⟩
      have := (Array.getElem?_eq_some_iff.1 (H1.out.2.at x hx)).1
      omega
/-- A map that is not got. -/
def PGn (w0 : World) (X : List (Nat × Obj)) (p dp : Nat) (s : F.Po) (D : dSt) (n kk z : Nat) (e : Ending) (w' : World) : Prop := e = .returned (.tuple #[.slice none 0 0, .int .i64 (z : Int)]) ∧ Hid (LpX w0 w' X p dp s D n kk)
set_option maxRecDepth 100000 in
set_option maxHeartbeats 2000000 in
theorem sget_bad {w0 w : World} {X : List (Nat × Obj)} {p dp : Nat} {s : F.Po} {D : dSt} {n kk sp : Nat} (h : LpX w0 w X p dp s D n kk) (hX : (sp, SBox p) ∈ X) (hn : n + 1 ≤ 1000000) (hk9 : kk ≤ 900) {k : Nat} (hk : k < G.maps (G.cnt s)) (hz : G.mapE s D k ≠ 0) :
    Calls Tryd.prog 27 #[Ptr sp, .int .i64 (k : Int)] w (PGn w0 X p dp (F.getS s D k) D (n + 1) kk (G.mapE s D k)) := by
  have HG := lx_get h hn hk9 (k : Int)
  have c0 : w.cell? ⟨sp, 0, none⟩ = some (Ptr p) := by rw [cellOf (h.at _ hX)]; rfl
  have hc := h.pok.cnt
  have hct := G.get_ct s D (k : Int)
  by_cases hE : F.getE s D k = 0
  · have hz2 : G.mapE s D k = 22 := by
      unfold G.mapE at hz ⊢
      rw [if_pos hE] at hz ⊢
      split at hz
      · exact absurd rfl hz
      · rename_i q; rw [if_neg q]
    have hgm : G.gm (G.cnt s) k (F.getB s D k) = none := by
      cases hq : G.gm (G.cnt s) k (F.getB s D k) with
      | none => rfl
      | some x => unfold G.mapE at hz; rw [if_pos hE, hq] at hz; exact absurd rfl hz
    rw [hz2]
    rw [hE] at HG
    have HG := hid HG
    generalize F.getB s D k = bs at *
    generalize F.getS s D k = s' at *
    have HC2 := hid (fun (a : Option Addr) (cap : Nat) (w1 : World) (h1 : bs.length ≤ cap) (h2 : At w1 a bs) => gcells_rows a bs bs.length cap w1 rfl h1 h2)
    have HK2 := hid (fun (a : Option Addr) (cap : Nat) (w1 : World) (h1 : bs.length ≤ cap) (h2 : At w1 a bs) => gkind_any a bs bs.length cap w1 rfl h1 h2)
    obtain ⟨bl, hbl⟩ : ∃ bl, bl = bs.length := ⟨_, rfl⟩
    rw [← hbl] at HC2 HK2
    have HL := hid (And.intro hbl hct)
    have HX := hid hX
    clear h hE hz hX hct hn hk9 hbl hz2
    by_cases qk : M.kindP bs = 2
    · rw [qk] at HK2
      by_cases ql : (M.cellsP bs).length = 1
      · obtain ⟨x, hx⟩ := List.length_eq_one_iff.1 ql
        have hmay : G.may (G.cnt s) k x = false := by
          unfold G.gm at hgm
          rw [if_pos qk, hx] at hgm
          cases hq : G.may (G.cnt s) k x with
          | false => rfl
          | true => simp [hq] at hgm
        rw [hx] at HC2
        have hxl : x.length ≤ 244 := by
          cases hR : M.readP bs with
          | none => rw [(M.none_all hR).2.2.1] at hx; cases hx
          | some p => exact cell_len (M.read_ok hR).1 (by rw [(M.some_all hR).2.2.1] at hx; rw [hx]; exact List.mem_cons_self)
        have HM := hid (fun (w1 : World) (a : Option Addr) (cap : Nat) (h1 : Spc w1 sp p (G.cnt s)) (h2 : At w1 a x) => show Calls Tryd.prog 41 #[Ptr sp, .int .i64 (k : Int), .slice a x.length cap] w1 (Adding (.bool false) w1) by have := smay_any h1 hc.2.1 hk a x x.length cap rfl h2 (by omega); rw [hmay] at this; exact this)
        obtain ⟨xl, hxl'⟩ : ∃ xl, xl = x.length := ⟨_, rfl⟩
        have HL2 := hid hxl'
        rw [← hxl'] at HM
        unfold Ptr at *
        clear hgm qk ql hx hmay hc hk hxl'
        go_enter Tryd.func27, Tryd.ntmps27
        go_wp2_with (first
          | (go_at_call 38; refine HG.out.mono ?_; rintro e w1 ⟨v, rfl, H1⟩; obtain ⟨a, cap, hv, hc1, ha1⟩ := row_slice H1.out.1; rw [← HL.out.1] at hv hc1; subst hv; have HA1 := hid (And.intro hc1 ha1); clear hc1 ha1)
          | (go_at_call 39; refine (HC2.out a cap w1 HA1.out.1 HA1.out.2).mono ?_; rintro e w2 ⟨ca, cc, hs, rfl, H2⟩
             obtain ⟨y, rfl⟩ : ∃ y, hs = [y] := by (have q := congrArg List.length H2.out.1; simp at q; exact List.length_eq_one_iff.1 q)
             obtain ⟨xa, xb, xc⟩ := y
             obtain rfl : xb = x := by have q := H2.out.1; simpa using q
             have HQ := hid (H2.out.2.1.at_ 0 (.slice xa xb.length xc) rfl)
             obtain ⟨cb, co, hca, _, hcc⟩ := HQ.out
             have hca' : ca = some ⟨cb, co, none⟩ := hca
             subst hca'
             rw [← HL2.out] at hcc
             have HCC := hid hcc; clear hcc hca)
          | (go_at_call 40; refine (HK2.out a cap w2 HA1.out.1 (HA1.out.2.adds H2.out.2.2.1)).mono ?_; rintro e w3 ⟨rfl, h3⟩; have H3 := hid h3; clear h3
             have hc3 : w3.cell? ⟨cb, co, none⟩ = some (.slice xa xl xc) := below_adds H3.out HCC.out)
          | (go_at_call 41; refine (HM.out w3 xa xc ((H1.out.2.spc HX.out).adds (H2.out.2.2.1.trans H3.out) |> fun q => by rw [HL.out.2] at q; exact q) ((At.owns (H2.out.2.2.2.2 _ List.mem_cons_self)).adds H3.out)).mono ?_; rintro e w4 ⟨rfl, h4⟩; have H4 := hid h4; clear h4))
        go_ret2
        exact ⟨rfl, H1.out.2.add (H2.out.2.2.1.trans (H3.out.trans H4.out))⟩
      · have qb : (((M.cellsP bs).length : Int) != 1) = true := by simp; omega
        have qc : ¬ ((M.cellsP bs).length : Int) = 1 := by omega
        unfold Ptr at *
        clear hgm qk ql hc hk
        go_enter Tryd.func27, Tryd.ntmps27
        go_wp2_with (first
          | (go_at_call 38; refine HG.out.mono ?_; rintro e w1 ⟨v, rfl, H1⟩; obtain ⟨a, cap, hv, hc1, ha1⟩ := row_slice H1.out.1; rw [← HL.out.1] at hv hc1; subst hv; have HA1 := hid (And.intro hc1 ha1); clear hc1 ha1)
          | (go_at_call 39; refine (HC2.out a cap w1 HA1.out.1 HA1.out.2).mono ?_; rintro e w2 ⟨ca, cc, hs, rfl, H2⟩)
          | (go_at_call 40; refine (HK2.out a cap w2 HA1.out.1 (HA1.out.2.adds H2.out.2.2.1)).mono ?_; rintro e w3 ⟨rfl, h3⟩; have H3 := hid h3; clear h3))
        go_ret2
        exact ⟨rfl, H1.out.2.add (H2.out.2.2.1.trans H3.out)⟩
    · have qb : (((M.kindP bs).toNat : Int) != 2) = true := by
        simp
        intro e
        exact qk (UInt8.toNat_inj.1 (by rw [show ((2 : UInt8).toNat) = 2 from rfl]; omega))
      have qc : ¬ ((M.kindP bs).toNat : Int) = 2 := by simpa using qb
      unfold Ptr at *
      clear hgm qk hc hk
      go_enter Tryd.func27, Tryd.ntmps27
      go_wp2_with (first
        | (go_at_call 38; refine HG.out.mono ?_; rintro e w1 ⟨v, rfl, H1⟩; obtain ⟨a, cap, hv, hc1, ha1⟩ := row_slice H1.out.1; rw [← HL.out.1] at hv hc1; subst hv; have HA1 := hid (And.intro hc1 ha1); clear hc1 ha1)
        | (go_at_call 39; refine (HC2.out a cap w1 HA1.out.1 HA1.out.2).mono ?_; rintro e w2 ⟨ca, cc, hs, rfl, H2⟩)
        | (go_at_call 40; refine (HK2.out a cap w2 HA1.out.1 (HA1.out.2.adds H2.out.2.2.1)).mono ?_; rintro e w3 ⟨rfl, h3⟩; have H3 := hid h3; clear h3))
      go_ret2
      exact ⟨rfl, H1.out.2.add (H2.out.2.2.1.trans H3.out)⟩
  · have hz2 : G.mapE s D k = F.getE s D k := by unfold G.mapE; rw [if_neg hE]
    rw [hz2]
    have HG := hid HG
    have hE1 : ((F.getE s D k : Int) != 0) = true := by simp; omega
    have hE2 : ¬ (F.getE s D k : Int) = 0 := by omega
    generalize F.getE s D k = ze at *
    generalize F.getB s D k = bs at *
    generalize F.getS s D k = s' at *
    unfold Ptr at *
    clear h hz hX hct hn hk9 hz2 hc hk hE
    go_enter Tryd.func27, Tryd.ntmps27
    go_wp2_with (go_at_call 38; refine HG.out.mono ?_; rintro e w1 ⟨v, rfl, H1⟩; obtain ⟨a, cap, hv, hc1, ha1⟩ := row_slice H1.out.1; subst hv; clear hc1 ha1)
    go_ret2
    exact ⟨rfl, H1.out.2⟩
theorem fill_pg {k : Nat} {x : List UInt8} (hk : k ≤ 1000) (hx : x.length ≤ 240) : M.fillP (k : Int) 2 [x] = G.pg k x ∧ M.fillE (k : Int) 2 [x] = 0 := M.fill_ok (p := G.pgP k x) (G.pg_ok (by omega) hx)
set_option maxRecDepth 100000 in
set_option maxHeartbeats 2000000 in
theorem sput_any {w0 w : World} {X : List (Nat × Obj)} {p dp : Nat} {s : F.Po} {D : dSt} {n kk sp : Nat} (h : LpX w0 w X p dp s D n kk) (hX : (sp, SBox p) ∈ X) (hn : n + 1 ≤ 1000000) {k : Nat} (hk : k ≤ 1000) (g : Nat) (x : List UInt8) (cap : Nat) (hA : At w (some ⟨g, 0, none⟩) x) (hx : x.length ≤ 240) :
    Calls Tryd.prog 23 #[Ptr sp, .int .i64 (k : Int), .slice (some ⟨g, 0, none⟩) x.length cap] w (fun e w' => e = .returned (.int .i64 (F.putE s k (G.pg k x) : Int)) ∧ Hid (LpX w0 w' X p dp (F.putS s k (G.pg k x)) D (n + 1) kk)) := by
  have hgq := one_cell w (some ⟨g, 0, none⟩) x x.length cap rfl (fun e => by cases e) hA
  have HF := gfill_any (k : Int) 2 (some ⟨w.heap.size, 0, none⟩) [⟨some ⟨g, 0, none⟩, x, cap⟩] 1 1 rfl _ hgq (fun y hy => by obtain rfl := List.mem_singleton.1 hy; show x.length ≤ _; omega) (by omega)
  have hfl := fill_pg (k := k) (x := x) (by omega) hx
  have hfl1 : M.fillP (k : Int) 2 (([⟨some ⟨g, 0, none⟩, x, cap⟩] : List Part).map (·.bs)) = G.pg k x := hfl.1
  have hfl2 : M.fillE (k : Int) 2 (([⟨some ⟨g, 0, none⟩, x, cap⟩] : List Part).map (·.bs)) = 0 := hfl.2
  rw [hfl1, hfl2] at HF
  have hpl : (G.pg k x).length = 256 := G.pg_len hx
  have HF := hid HF
  have c0 : ∀ w', Adds w w' → w'.cell? ⟨sp, 0, none⟩ = some (Ptr p) := fun w' hA' => by rw [cellOf ((h.add hA').at _ hX)]; rfl
  have HP := hid (fun (w' : World) (hA' : Adds w w') (a : Option Addr) (cap' : Nat) (hc : 256 ≤ cap') (hAt : At w' a (G.pg k x)) => lx_put (h.add hA') hn (k : Int) a (G.pg k x) 256 cap' hpl hc hAt)
  generalize F.putE s k (G.pg k x) = ze at *
  generalize F.putS s k (G.pg k x) = s' at *
  generalize G.pg k x = bs at *
  rw [show (((2 : UInt8).toNat : Nat) : Int) = 2 from rfl] at HF
  have HL := hid hpl
  obtain ⟨xl, hxl⟩ : ∃ xl, xl = x.length := ⟨_, rfl⟩
  rw [← hxl] at HF ⊢
  have HC := hid c0
  unfold Ptr at *
  clear h hX hn hgq hfl hfl1 hfl2 hA hx hxl hpl c0
  go_enter Tryd.func23, Tryd.ntmps23
  go_wp2_with (first
    | (go_at_call 34; refine HF.out.mono ?_; rintro e w1 ⟨a, cap1, rfl, H1⟩; have c1 := HC.out w1 (((Touch.refl _ w).alloc _).trans H1.out.2.2.2); rw [HL.out])
    | (go_at_call 35; refine (HP.out w1 (((Touch.refl _ w).alloc _).trans H1.out.2.2.2) a cap1 (by have := H1.out.2.1; rw [HL.out] at this; exact this) H1.out.1).mono ?_; rintro e w2 ⟨rfl, H2⟩))
  go_ret
  exact ⟨rfl, H2.out⟩
set_option maxRecDepth 100000 in
/-- A block that is nobody's turns. -/
theorem LpX.turn {w0 w w' : World} {X Y : List (Nat × Obj)} {p dp : Nat} {s : F.Po} {D : dSt} {n k : Nat} (h : LpX w0 w X p dp s D n k) {g : Nat} (hT : Touch (fun j => j = g) w w') (hg : ∃ x ∈ X, x.1 = g) (h0 : w0.heap.size ≤ g) (hY : ∀ y ∈ Y, (∃ x ∈ X, x.1 = y.1) ∧ w'.heap[y.1]? = some y.2) : LpX w0 w' Y p dp s D n k := by
  obtain ⟨O, OD, h, hX⟩ := h
  obtain ⟨x, hx, rfl⟩ := hg
  have hno := (hX x hx).2
  have hz := hT.size
  refine ⟨O, OD, ⟨h.pool.touch hT (fun j c e => hno (.inl (by rw [← e]; exact c))), h.disk.touch hT (fun j c e => hno (.inr (by rw [← e]; exact c))), h.ok, h.apart, h.low, fun j c => Nat.lt_of_lt_of_le (h.lt j c) hz, h.adds.then hT (fun j hj e => by omega), h.tab, h.good, h.pok⟩, fun y hy => ?_⟩
  obtain ⟨⟨z, hz', e⟩, h2⟩ := hY y hy
  exact ⟨h2, by rw [← e]; exact (hX z hz').2⟩
set_option maxRecDepth 100000 in
theorem LpX.le {w0 w : World} {X : List (Nat × Obj)} {p dp : Nat} {s : F.Po} {D : dSt} {n n' k : Nat} (h : LpX w0 w X p dp s D n k) (hn : n ≤ n') : LpX w0 w X p dp s D n' k := by
  obtain ⟨O, OD, h, hX⟩ := h
  obtain ⟨hb, y, Gs, hp, hy⟩ := h.pool
  exact ⟨O, OD, ⟨⟨hb, y, Gs, hp, by omega⟩, h.disk, h.ok, h.apart, h.low, h.lt, h.adds, h.tab, h.good, h.pok⟩, hX⟩
set_option maxRecDepth 100000 in
/-- A bit of a map's cell is turned. -/
theorem sturn_any {w0 w : World} {X : List (Nat × Obj)} {p dp : Nat} {s : F.Po} {D : dSt} {n kk g : Nat} {cur : Array Value} {bs : List UInt8} (h : LpX w0 w ((g, .cells cur 5 (0, 0)) :: X) p dp s D n kk) (h0 : w0.heap.size ≤ g) (hne : ∀ x ∈ X, x.1 ≠ g) (hs : cur.toList.take bs.length = S bs) (cap i : Nat) (hi : i < 100000000) (hb : i % 1920 / 8 < bs.length) :
    Calls Tryd.prog 29 #[.slice (some ⟨g, 0, none⟩) bs.length cap, .int .i64 (i : Int)] w (fun e w' => (∃ v, e = .returned v) ∧ Hid (∃ cur', cur'.toList.take bs.length = S (G.flip bs (i % 1920)) ∧ LpX w0 w' ((g, .cells cur' 5 (0, 0)) :: X) p dp s D n kk)) := by
  refine (turn_any w g cap cur bs bs.length rfl i hi (h.at _ List.mem_cons_self) hs hb).mono ?_
  rintro e w' ⟨hv, cur', _, h2, h3, h4⟩
  refine ⟨hv, cur', h2, h.turn h4 ⟨_, List.mem_cons_self, rfl⟩ h0 (fun y hy => ?_)⟩
  rcases List.mem_cons.1 hy with rfl | hy
  · exact ⟨⟨_, List.mem_cons_self, rfl⟩, h3⟩
  · have hl := h.at y (List.mem_cons_of_mem _ hy)
    exact ⟨⟨y, List.mem_cons_of_mem _ hy, rfl⟩, by rw [h4.block y.1 (Array.getElem?_eq_some_iff.1 hl).1 (hne y hy)]; exact hl⟩
set_option maxRecDepth 100000 in
/-- Where the cell's bytes lie. -/
theorem LpX.bytes {w0 w : World} {X : List (Nat × Obj)} {p dp : Nat} {s : F.Po} {D : dSt} {n kk g : Nat} {cur : Array Value} {bs : List UInt8} (h : LpX w0 w ((g, .cells cur 5 (0, 0)) :: X) p dp s D n kk) (hs : cur.toList.take bs.length = S bs) : At w (some ⟨g, 0, none⟩) bs := by
  have h1 := h.at _ List.mem_cons_self
  intro j c hj
  refine ⟨g, 0, rfl, ?_⟩
  have h5 : (S bs)[j]? = some (.int .u8 (c.toNat : Int)) := by rw [S_get, hj]; rfl
  rw [← hs, List.getElem?_take, if_pos (List.getElem?_eq_some_iff.1 hj).1] at h5
  rw [cellOf h1, Nat.zero_add, ← Array.getElem?_toList]
  exact h5
theorem LpX.cdr {w0 w : World} {x : Nat × Obj} {X : List (Nat × Obj)} {p dp : Nat} {s : F.Po} {D : dSt} {n kk : Nat} (h : LpX w0 w (x :: X) p dp s D n kk) : LpX w0 w X p dp s D n kk := h.fewer (fun _ hy => List.mem_cons_of_mem _ hy)
end Go.Proofs.YtokbiekdompaoaaDoor
