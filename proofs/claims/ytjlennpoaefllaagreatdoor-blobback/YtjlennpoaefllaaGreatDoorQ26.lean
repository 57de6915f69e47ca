/- Texts put together: GGet, GTak0, GTaken. -/
import Derived.Test.YtjlennpoaefllaaGreatDoorQ24
import Derived.Test.YtjlennpoaefllaaGreatDoorQ25
import Derived.RangeFuncBox
import Derived.Maps.AppendAt
/- getMap and putMap: a map is got out of the pool, and put into it. -/
namespace Go.Proofs.YtjlennpoaefllaaGreatDoor
open Go.RowKit

set_option maxRecDepth 100000 in
theorem LpX.spc {w0 w : World} {X : List (Nat × Obj)} {p dp : Nat} {s : F.Po} {D : dSt} {n kk sp : Nat} (h : LpX w0 w X p dp s D n kk) (hX : (sp, SBox p) ∈ X) : Spc w sp p (G.cnt s) := by
  have hb := h.at _ hX
  obtain ⟨O, OD, h, _⟩ := h
  obtain ⟨hb', y, Gs, hp, _⟩ := h.pool
  exact ⟨hb, dp, s, hb', y, hp.box, by unfold G.cnt; have := h.pok.ct1; omega⟩
theorem LpX.pok {w0 w : World} {X : List (Nat × Obj)} {p dp : Nat} {s : F.Po} {D : dSt} {n kk : Nat} (h : LpX w0 w X p dp s D n kk) : POk s D := h.e.pok
set_option maxRecDepth 100000 in
theorem POk.cnt {s : F.Po} {D : dSt} (h : POk s D) : 1 ≤ G.cnt s ∧ G.cnt s ≤ 4096 ∧ (G.cnt s : Int) = s.ct := by
  have := h.ct1; have := h.fit; have := h.fr0; have := h.size
  unfold G.cnt
  omega
set_option maxRecDepth 100000 in
/-- Slices of rows. -/
theorem row_slice {w : World} {B : Nat} {v : Value} {bs : List UInt8} (h : w.ownsRow B 5 1 v bs.length (S bs)) : ∃ a cap, v = .slice a bs.length cap ∧ bs.length ≤ cap ∧ At w a bs := by
  obtain ⟨a, cap, hv, hc, _, hq⟩ := own_cq h
  refine ⟨a, cap, hv, hc, fun j c hj => ?_⟩
  obtain ⟨b, o, e, _, hcell⟩ := hq j (.int .u8 (c.toNat : Int)) (by rw [S_get, hj]; rfl)
  exact ⟨b, o, e, hcell⟩
/-- A map that is got. -/
def PGm (w0 : World) (X : List (Nat × Obj)) (p dp : Nat) (s : F.Po) (D : dSt) (n kk : Nat) (bs : List UInt8) (e : Ending) (w' : World) : Prop := ∃ g cap cur, e = .returned (.tuple #[.slice (some ⟨g, 0, none⟩) bs.length cap, .int .i64 0]) ∧ Hid (cur.toList.take bs.length = S bs ∧ bs.length ≤ cap ∧ LpX w0 w' ((g, .cells cur 5 (0, 0)) :: X) p dp s D n kk ∧ w0.heap.size ≤ g ∧ ∀ x ∈ X, x.1 ≠ g)
set_option maxRecDepth 100000 in
set_option maxHeartbeats 2000000 in
theorem sget_ok {w0 w : World} {X : List (Nat × Obj)} {p dp : Nat} {s : F.Po} {D : dSt} {n kk sp : Nat} (h : LpX w0 w X p dp s D n kk) (hX : (sp, SBox p) ∈ X) (hn : n + 1 ≤ 1000000) (hk9 : kk ≤ 900) {k : Nat} (hk : k < G.maps (G.cnt s)) (hz : G.mapE s D k = 0) :
    Calls Tryz.prog 70 #[Ptr sp, .int .i64 (k : Int)] w (PGm w0 X p dp (F.getS s D k) D (n + 1) kk (G.mapB s D k)) := by
  obtain ⟨hE, _, hmay, hcells, hkind⟩ := G.mapB_may hz
  have HG := lx_get h hn hk9 (k : Int)
  rw [hE] at HG
  have HG := hid HG
  have hc := h.pok.cnt
  have hct := G.get_ct s D (k : Int)
  generalize G.mapB s D k = x at *
  generalize F.getB s D k = bs at *
  generalize F.getS s D k = s' at *
  have HC2 := hid (fun (a : Option Addr) (cap : Nat) (w1 : World) (h1 : bs.length ≤ cap) (h2 : At w1 a bs) => show Calls Tryz.prog 115 #[.slice a bs.length cap] w1 (PCellsR w1 [x]) by rw [← hcells]; exact gcells_rows a bs bs.length cap w1 rfl h1 h2)
  have HK2 := hid (fun (a : Option Addr) (cap : Nat) (w1 : World) (h1 : bs.length ≤ cap) (h2 : At w1 a bs) => show Calls Tryz.prog 116 #[.slice a bs.length cap] w1 (Adding (.int .u8 2) w1) by have := gkind_any a bs bs.length cap w1 rfl h1 h2; rw [hkind] at this; exact this)
  have hxl := G.may_len hmay
  have hx1 := G.cells_pos hk
  have hx2 := G.cells_le (G.cnt s) k
  have HM := hid (fun (w1 : World) (a : Option Addr) (cap : Nat) (h1 : Spc w1 sp p (G.cnt s)) (h2 : At w1 a x) => show Calls Tryz.prog 117 #[Ptr sp, .int .i64 (k : Int), .slice a x.length cap] w1 (Adding (.bool true) w1) by have := smay_any h1 hc.2.1 hk a x x.length cap rfl h2 (by omega); rw [hmay] at this; exact this)
  have c0 : w.cell? ⟨sp, 0, none⟩ = some (Ptr p) := by rw [cellOf (h.at _ hX)]; rfl
  obtain ⟨xl, hxl'⟩ : ∃ xl, xl = x.length := ⟨_, rfl⟩
  obtain ⟨bl, hbl⟩ : ∃ bl, bl = bs.length := ⟨_, rfl⟩
  have HL := hid (And.intro hxl' (And.intro hbl (And.intro (show 1 ≤ xl by omega) hct)))
  rw [← hxl'] at HM
  rw [← hbl] at HC2 HK2
  have HX := hid hX
  unfold Ptr at *
  clear h hE hmay hcells hkind hz hk hc hxl hx1 hx2 hxl' hbl hX hct hn hk9
  go_enter Tryz.func70, Tryz.ntmps70
  go_wp2_with (first
    | (go_at_call 114; refine HG.out.mono ?_; rintro e w1 ⟨v, rfl, H1⟩; obtain ⟨a, cap, hv, hc1, ha1⟩ := row_slice H1.out.1; rw [← HL.out.2.1] at hv hc1; subst hv; have HA1 := hid (And.intro hc1 ha1); clear hc1 ha1)
    | (go_at_call 115; refine (HC2.out a cap w1 HA1.out.1 HA1.out.2).mono ?_; rintro e w2 ⟨ca, cc, hs, rfl, H2⟩
       obtain ⟨y, rfl⟩ : ∃ y, hs = [y] := by (have q := congrArg List.length H2.out.1; simp at q; exact List.length_eq_one_iff.1 q)
       obtain ⟨xa, xb, xc⟩ := y
       obtain rfl : xb = x := by have q := H2.out.1; simpa using q
       have HQ := hid (H2.out.2.1.at_ 0 (.slice xa xb.length xc) rfl)
       obtain ⟨cb, co, hca, _, hcc⟩ := HQ.out
       have hca' : ca = some ⟨cb, co, none⟩ := hca
       subst hca'
       rw [← HL.out.1] at hcc
       have HCC := hid hcc; clear hcc hca)
    | (go_at_call 116; refine (HK2.out a cap w2 HA1.out.1 (HA1.out.2.adds H2.out.2.2.1)).mono ?_; rintro e w3 ⟨rfl, h3⟩; have H3 := hid h3; clear h3
       have hc3 : w3.cell? ⟨cb, co, none⟩ = some (.slice xa xl xc) := below_adds H3.out HCC.out)
    | (go_at_call 117; refine (HM.out w3 xa xc ((H1.out.2.spc HX.out).adds (H2.out.2.2.1.trans H3.out) |> fun q => by rw [HL.out.2.2.2] at q; exact q) ((At.owns (H2.out.2.2.2.2 _ List.mem_cons_self)).adds H3.out)).mono ?_; rintro e w4 ⟨rfl, h4⟩; have H4 := hid h4; clear h4
       have hc4 : w4.cell? ⟨cb, co, none⟩ = some (.slice xa xl xc) := below_adds H4.out hc3))
  go_ret2
  have hA : Adds w2 w4 := H3.out.trans H4.out
  have hrow := row_touch (H2.out.2.2.2.2 _ List.mem_cons_self) hA (fun _ _ => id)
  rcases hrow.2 with ⟨_, h0⟩ | ⟨g, cap', cur, e1, hg1, hg2, hg3, hg4, hg5, hg6⟩
  · have := HL.out.1; have := HL.out.2.2.1; have h0' : xb.length = 0 := h0; omega
  · have e2 : Value.slice xa xb.length xc = .slice (some ⟨g, 0, none⟩) xb.length cap' := e1
    cases e2
    refine ⟨g, xc, cur, by rw [HL.out.1]; rfl, ?_, hg3, H1.out.2.more (H2.out.2.2.1.trans hA) g _ hg2 hg1, ?_⟩
    · rw [Nat.mul_one] at hg6; exact hg6
    · refine ⟨by have := H1.out.2.e.adds.size; omega, fun x hx e => ?_⟩
      have := (Array.getElem?_eq_some_iff.1 (H1.out.2.at x hx)).1
      omega
/-- A map that is not got. -/
def PGn (w0 : World) (X : List (Nat × Obj)) (p dp : Nat) (s : F.Po) (D : dSt) (n kk z : Nat) (e : Ending) (w' : World) : Prop := e = .returned (.tuple #[.slice none 0 0, .int .i64 (z : Int)]) ∧ Hid (LpX w0 w' X p dp s D n kk)
set_option maxRecDepth 100000 in
set_option maxHeartbeats 2000000 in
theorem sget_bad {w0 w : World} {X : List (Nat × Obj)} {p dp : Nat} {s : F.Po} {D : dSt} {n kk sp : Nat} (h : LpX w0 w X p dp s D n kk) (hX : (sp, SBox p) ∈ X) (hn : n + 1 ≤ 1000000) (hk9 : kk ≤ 900) {k : Nat} (hk : k < G.maps (G.cnt s)) (hz : G.mapE s D k ≠ 0) :
    Calls Tryz.prog 70 #[Ptr sp, .int .i64 (k : Int)] w (PGn w0 X p dp (F.getS s D k) D (n + 1) kk (G.mapE s D k)) := by
  have HG := lx_get h hn hk9 (k : Int)
  have c0 : w.cell? ⟨sp, 0, none⟩ = some (Ptr p) := by rw [cellOf (h.at _ hX)]; rfl
  have hc := h.pok.cnt
  have hct := G.get_ct s D (k : Int)
  by_cases hE : F.getE s D k = 0
  · have hz2 : G.mapE s D k = 22 := by
      unfold G.mapE at hz ⊢
      rw [if_pos hE] at hz ⊢
      split at hz
      · exact absurd rfl hz
      · rename_i q; rw [if_neg q]
    have hgm : G.gm (G.cnt s) k (F.getB s D k) = none := by
      cases hq : G.gm (G.cnt s) k (F.getB s D k) with
      | none => rfl
      | some x => unfold G.mapE at hz; rw [if_pos hE, hq] at hz; exact absurd rfl hz
    rw [hz2]
    rw [hE] at HG
    have HG := hid HG
    generalize F.getB s D k = bs at *
    generalize F.getS s D k = s' at *
    have HC2 := hid (fun (a : Option Addr) (cap : Nat) (w1 : World) (h1 : bs.length ≤ cap) (h2 : At w1 a bs) => gcells_rows a bs bs.length cap w1 rfl h1 h2)
    have HK2 := hid (fun (a : Option Addr) (cap : Nat) (w1 : World) (h1 : bs.length ≤ cap) (h2 : At w1 a bs) => gkind_any a bs bs.length cap w1 rfl h1 h2)
    obtain ⟨bl, hbl⟩ : ∃ bl, bl = bs.length := ⟨_, rfl⟩
    rw [← hbl] at HC2 HK2
    have HL := hid (And.intro hbl hct)
    have HX := hid hX
    clear h hE hz hX hct hn hk9 hbl hz2
    by_cases qk : M.kindP bs = 2
    · rw [qk] at HK2
      by_cases ql : (M.cellsP bs).length = 1
      · obtain ⟨x, hx⟩ := List.length_eq_one_iff.1 ql
        have hmay : G.may (G.cnt s) k x = false := by
          unfold G.gm at hgm
          rw [if_pos qk, hx] at hgm
          cases hq : G.may (G.cnt s) k x with
          | false => rfl
          | true => simp [hq] at hgm
        rw [hx] at HC2
        have hxl : x.length ≤ 244 := by
          cases hR : M.readP bs with
          | none => rw [(M.none_all hR).2.2.1] at hx; cases hx
          | some p => exact cell_len (M.read_ok hR).1 (by rw [(M.some_all hR).2.2.1] at hx; rw [hx]; exact List.mem_cons_self)
        have HM := hid (fun (w1 : World) (a : Option Addr) (cap : Nat) (h1 : Spc w1 sp p (G.cnt s)) (h2 : At w1 a x) => show Calls Tryz.prog 117 #[Ptr sp, .int .i64 (k : Int), .slice a x.length cap] w1 (Adding (.bool false) w1) by have := smay_any h1 hc.2.1 hk a x x.length cap rfl h2 (by omega); rw [hmay] at this; exact this)
        obtain ⟨xl, hxl'⟩ : ∃ xl, xl = x.length := ⟨_, rfl⟩
        have HL2 := hid hxl'
        rw [← hxl'] at HM
        unfold Ptr at *
        clear hgm qk ql hx hmay hc hk hxl'
        go_enter Tryz.func70, Tryz.ntmps70
        go_wp2_with (first
          | (go_at_call 114; refine HG.out.mono ?_; rintro e w1 ⟨v, rfl, H1⟩; obtain ⟨a, cap, hv, hc1, ha1⟩ := row_slice H1.out.1; rw [← HL.out.1] at hv hc1; subst hv; have HA1 := hid (And.intro hc1 ha1); clear hc1 ha1)
          | (go_at_call 115; refine (HC2.out a cap w1 HA1.out.1 HA1.out.2).mono ?_; rintro e w2 ⟨ca, cc, hs, rfl, H2⟩
             obtain ⟨y, rfl⟩ : ∃ y, hs = [y] := by (have q := congrArg List.length H2.out.1; simp at q; exact List.length_eq_one_iff.1 q)
             obtain ⟨xa, xb, xc⟩ := y
             obtain rfl : xb = x := by have q := H2.out.1; simpa using q
             have HQ := hid (H2.out.2.1.at_ 0 (.slice xa xb.length xc) rfl)
             obtain ⟨cb, co, hca, _, hcc⟩ := HQ.out
             have hca' : ca = some ⟨cb, co, none⟩ := hca
             subst hca'
             rw [← HL2.out] at hcc
             have HCC := hid hcc; clear hcc hca)
          | (go_at_call 116; refine (HK2.out a cap w2 HA1.out.1 (HA1.out.2.adds H2.out.2.2.1)).mono ?_; rintro e w3 ⟨rfl, h3⟩; have H3 := hid h3; clear h3
             have hc3 : w3.cell? ⟨cb, co, none⟩ = some (.slice xa xl xc) := below_adds H3.out HCC.out)
          | (go_at_call 117; refine (HM.out w3 xa xc ((H1.out.2.spc HX.out).adds (H2.out.2.2.1.trans H3.out) |> fun q => by rw [HL.out.2] at q; exact q) ((At.owns (H2.out.2.2.2.2 _ List.mem_cons_self)).adds H3.out)).mono ?_; rintro e w4 ⟨rfl, h4⟩; have H4 := hid h4; clear h4))
        go_ret2
        exact ⟨rfl, H1.out.2.add (H2.out.2.2.1.trans (H3.out.trans H4.out))⟩
      · have qb : (((M.cellsP bs).length : Int) != 1) = true := by simp; omega
        have qc : ¬ ((M.cellsP bs).length : Int) = 1 := by omega
        unfold Ptr at *
        clear hgm qk ql hc hk
        go_enter Tryz.func70, Tryz.ntmps70
        go_wp2_with (first
          | (go_at_call 114; refine HG.out.mono ?_; rintro e w1 ⟨v, rfl, H1⟩; obtain ⟨a, cap, hv, hc1, ha1⟩ := row_slice H1.out.1; rw [← HL.out.1] at hv hc1; subst hv; have HA1 := hid (And.intro hc1 ha1); clear hc1 ha1)
          | (go_at_call 115; refine (HC2.out a cap w1 HA1.out.1 HA1.out.2).mono ?_; rintro e w2 ⟨ca, cc, hs, rfl, H2⟩)
          | (go_at_call 116; refine (HK2.out a cap w2 HA1.out.1 (HA1.out.2.adds H2.out.2.2.1)).mono ?_; rintro e w3 ⟨rfl, h3⟩; have H3 := hid h3; clear h3))
        go_ret2
        exact ⟨rfl, H1.out.2.add (H2.out.2.2.1.trans H3.out)⟩
    · have qb : (((M.kindP bs).toNat : Int) != 2) = true := by
        simp
        intro e
        exact qk (UInt8.toNat_inj.1 (by rw [show ((2 : UInt8).toNat) = 2 from rfl]; omega))
      have qc : ¬ ((M.kindP bs).toNat : Int) = 2 := by simpa using qb
      unfold Ptr at *
      clear hgm qk hc hk
      go_enter Tryz.func70, Tryz.ntmps70
      go_wp2_with (first
        | (go_at_call 114; refine HG.out.mono ?_; rintro e w1 ⟨v, rfl, H1⟩; obtain ⟨a, cap, hv, hc1, ha1⟩ := row_slice H1.out.1; rw [← HL.out.1] at hv hc1; subst hv; have HA1 := hid (And.intro hc1 ha1); clear hc1 ha1)
        | (go_at_call 115; refine (HC2.out a cap w1 HA1.out.1 HA1.out.2).mono ?_; rintro e w2 ⟨ca, cc, hs, rfl, H2⟩)
        | (go_at_call 116; refine (HK2.out a cap w2 HA1.out.1 (HA1.out.2.adds H2.out.2.2.1)).mono ?_; rintro e w3 ⟨rfl, h3⟩; have H3 := hid h3; clear h3))
      go_ret2
      exact ⟨rfl, H1.out.2.add (H2.out.2.2.1.trans H3.out)⟩
  · have hz2 : G.mapE s D k = F.getE s D k := by unfold G.mapE; rw [if_neg hE]
    rw [hz2]
    have HG := hid HG
    have hE1 : ((F.getE s D k : Int) != 0) = true := by simp; omega
    have hE2 : ¬ (F.getE s D k : Int) = 0 := by omega
    generalize F.getE s D k = ze at *
    generalize F.getB s D k = bs at *
    generalize F.getS s D k = s' at *
    unfold Ptr at *
    clear h hz hX hct hn hk9 hz2 hc hk hE
    go_enter Tryz.func70, Tryz.ntmps70
    go_wp2_with (go_at_call 114; refine HG.out.mono ?_; rintro e w1 ⟨v, rfl, H1⟩; obtain ⟨a, cap, hv, hc1, ha1⟩ := row_slice H1.out.1; subst hv; clear hc1 ha1)
    go_ret2
    exact ⟨rfl, H1.out.2⟩
theorem fill_pg {k : Nat} {x : List UInt8} (hk : k ≤ 1000) (hx : x.length ≤ 240) : M.fillP (k : Int) 2 [x] = G.pg k x ∧ M.fillE (k : Int) 2 [x] = 0 := M.fill_ok (p := G.pgP k x) (G.pg_ok (by omega) hx)
set_option maxRecDepth 100000 in
set_option maxHeartbeats 2000000 in
theorem sput_any {w0 w : World} {X : List (Nat × Obj)} {p dp : Nat} {s : F.Po} {D : dSt} {n kk sp : Nat} (h : LpX w0 w X p dp s D n kk) (hX : (sp, SBox p) ∈ X) (hn : n + 1 ≤ 1000000) {k : Nat} (hk : k ≤ 1000) (g : Nat) (x : List UInt8) (cap : Nat) (hA : At w (some ⟨g, 0, none⟩) x) (hx : x.length ≤ 240) :
    Calls Tryz.prog 37 #[Ptr sp, .int .i64 (k : Int), .slice (some ⟨g, 0, none⟩) x.length cap] w (fun e w' => e = .returned (.int .i64 (F.putE s k (G.pg k x) : Int)) ∧ Hid (LpX w0 w' X p dp (F.putS s k (G.pg k x)) D (n + 1) kk)) := by
  have hgq := one_cell w (some ⟨g, 0, none⟩) x x.length cap rfl (fun e => by cases e) hA
  have HF := gfill_any (k : Int) 2 (some ⟨w.heap.size, 0, none⟩) [⟨some ⟨g, 0, none⟩, x, cap⟩] 1 1 rfl _ hgq (fun y hy => by obtain rfl := List.mem_singleton.1 hy; show x.length ≤ _; omega) (by omega)
  have hfl := fill_pg (k := k) (x := x) (by omega) hx
  have hfl1 : M.fillP (k : Int) 2 (([⟨some ⟨g, 0, none⟩, x, cap⟩] : List Part).map (·.bs)) = G.pg k x := hfl.1
  have hfl2 : M.fillE (k : Int) 2 (([⟨some ⟨g, 0, none⟩, x, cap⟩] : List Part).map (·.bs)) = 0 := hfl.2
  rw [hfl1, hfl2] at HF
  have hpl : (G.pg k x).length = 256 := G.pg_len hx
  have HF := hid HF
  have c0 : ∀ w', Adds w w' → w'.cell? ⟨sp, 0, none⟩ = some (Ptr p) := fun w' hA' => by rw [cellOf ((h.add hA').at _ hX)]; rfl
  have HP := hid (fun (w' : World) (hA' : Adds w w') (a : Option Addr) (cap' : Nat) (hc : 256 ≤ cap') (hAt : At w' a (G.pg k x)) => lx_put (h.add hA') hn (k : Int) a (G.pg k x) 256 cap' hpl hc hAt)
  generalize F.putE s k (G.pg k x) = ze at *
  generalize F.putS s k (G.pg k x) = s' at *
  generalize G.pg k x = bs at *
  rw [show (((2 : UInt8).toNat : Nat) : Int) = 2 from rfl] at HF
  have HL := hid hpl
  obtain ⟨xl, hxl⟩ : ∃ xl, xl = x.length := ⟨_, rfl⟩
  rw [← hxl] at HF ⊢
  have HC := hid c0
  unfold Ptr at *
  clear h hX hn hgq hfl hfl1 hfl2 hA hx hxl hpl c0
  go_enter Tryz.func37, Tryz.ntmps37
  go_wp2_with (first
    | (go_at_call 78; refine HF.out.mono ?_; rintro e w1 ⟨a, cap1, rfl, H1⟩; have c1 := HC.out w1 (((Touch.refl _ w).alloc _).trans H1.out.2.2.2); rw [HL.out])
    | (go_at_call 53; refine (HP.out w1 (((Touch.refl _ w).alloc _).trans H1.out.2.2.2) a cap1 (by have := H1.out.2.1; rw [HL.out] at this; exact this) H1.out.1).mono ?_; rintro e w2 ⟨rfl, H2⟩))
  go_ret
  exact ⟨rfl, H2.out⟩
set_option maxRecDepth 100000 in
/-- A block that is nobody's turns. -/
theorem LpX.turn {w0 w w' : World} {X Y : List (Nat × Obj)} {p dp : Nat} {s : F.Po} {D : dSt} {n k : Nat} (h : LpX w0 w X p dp s D n k) {g : Nat} (hT : Touch (fun j => j = g) w w') (hg : ∃ x ∈ X, x.1 = g) (h0 : w0.heap.size ≤ g) (hY : ∀ y ∈ Y, (∃ x ∈ X, x.1 = y.1) ∧ w'.heap[y.1]? = some y.2) : LpX w0 w' Y p dp s D n k := by
  obtain ⟨O, OD, h, hX⟩ := h
  obtain ⟨x, hx, rfl⟩ := hg
  have hno := (hX x hx).2
  have hz := hT.size
  refine ⟨O, OD, ⟨h.pool.touch hT (fun j c e => hno (.inl (by rw [← e]; exact c))), h.disk.touch hT (fun j c e => hno (.inr (by rw [← e]; exact c))), h.ok, h.apart, h.low, fun j c => Nat.lt_of_lt_of_le (h.lt j c) hz, h.adds.then hT (fun j hj e => by omega), h.tab, h.good, h.pok⟩, fun y hy => ?_⟩
  obtain ⟨⟨z, hz', e⟩, h2⟩ := hY y hy
  exact ⟨h2, by rw [← e]; exact (hX z hz').2⟩
set_option maxRecDepth 100000 in
theorem LpX.le {w0 w : World} {X : List (Nat × Obj)} {p dp : Nat} {s : F.Po} {D : dSt} {n n' k : Nat} (h : LpX w0 w X p dp s D n k) (hn : n ≤ n') : LpX w0 w X p dp s D n' k := by
  obtain ⟨O, OD, h, hX⟩ := h
  obtain ⟨hb, y, Gs, hp, hy⟩ := h.pool
  exact ⟨O, OD, ⟨⟨hb, y, Gs, hp, by omega⟩, h.disk, h.ok, h.apart, h.low, h.lt, h.adds, h.tab, h.good, h.pok⟩, hX⟩
set_option maxRecDepth 100000 in
/-- A bit of a map's cell is turned. -/
theorem sturn_any {w0 w : World} {X : List (Nat × Obj)} {p dp : Nat} {s : F.Po} {D : dSt} {n kk g : Nat} {cur : Array Value} {bs : List UInt8} (h : LpX w0 w ((g, .cells cur 5 (0, 0)) :: X) p dp s D n kk) (h0 : w0.heap.size ≤ g) (hne : ∀ x ∈ X, x.1 ≠ g) (hs : cur.toList.take bs.length = S bs) (cap i : Nat) (hi : i < 100000000) (hb : i % 1920 / 8 < bs.length) :
    Calls Tryz.prog 73 #[.slice (some ⟨g, 0, none⟩) bs.length cap, .int .i64 (i : Int)] w (fun e w' => (∃ v, e = .returned v) ∧ Hid (∃ cur', cur'.toList.take bs.length = S (G.flip bs (i % 1920)) ∧ LpX w0 w' ((g, .cells cur' 5 (0, 0)) :: X) p dp s D n kk)) := by
  refine (turn_any w g cap cur bs bs.length rfl i hi (h.at _ List.mem_cons_self) hs hb).mono ?_
  rintro e w' ⟨hv, cur', _, h2, h3, h4⟩
  refine ⟨hv, cur', h2, h.turn h4 ⟨_, List.mem_cons_self, rfl⟩ h0 (fun y hy => ?_)⟩
  rcases List.mem_cons.1 hy with rfl | hy
  · exact ⟨⟨_, List.mem_cons_self, rfl⟩, h3⟩
  · have hl := h.at y (List.mem_cons_of_mem _ hy)
    exact ⟨⟨y, List.mem_cons_of_mem _ hy, rfl⟩, by rw [h4.block y.1 (Array.getElem?_eq_some_iff.1 hl).1 (hne y hy)]; exact hl⟩
set_option maxRecDepth 100000 in
/-- Where the cell's bytes lie. -/
theorem LpX.bytes {w0 w : World} {X : List (Nat × Obj)} {p dp : Nat} {s : F.Po} {D : dSt} {n kk g : Nat} {cur : Array Value} {bs : List UInt8} (h : LpX w0 w ((g, .cells cur 5 (0, 0)) :: X) p dp s D n kk) (hs : cur.toList.take bs.length = S bs) : At w (some ⟨g, 0, none⟩) bs := by
  have h1 := h.at _ List.mem_cons_self
  intro j c hj
  refine ⟨g, 0, rfl, ?_⟩
  have h5 : (S bs)[j]? = some (.int .u8 (c.toNat : Int)) := by rw [S_get, hj]; rfl
  rw [← hs, List.getElem?_take, if_pos (List.getElem?_eq_some_iff.1 hj).1] at h5
  rw [cellOf h1, Nat.zero_add, ← Array.getElem?_toList]
  exact h5
theorem LpX.cdr {w0 w : World} {x : Nat × Obj} {X : List (Nat × Obj)} {p dp : Nat} {s : F.Po} {D : dSt} {n kk : Nat} (h : LpX w0 w (x :: X) p dp s D n kk) : LpX w0 w X p dp s D n kk := h.fewer (fun _ hy => List.mem_cons_of_mem _ hy)
end Go.Proofs.YtjlennpoaefllaaGreatDoor

/- What Taken's walk needs: blocks that are nobody's, marks, a list that grows. -/
namespace Go.Proofs.YtjlennpoaefllaaGreatDoor
open Go.RowKit Go.Shelf

set_option maxRecDepth 100000 in
/-- Blocks that are nobody's turn, and new ones come. -/
theorem LpX.turns {w0 w w' : World} {X Y : List (Nat × Obj)} {p dp : Nat} {s : F.Po} {D : dSt} {n k : Nat} {T : Nat → Prop} (h : LpX w0 w X p dp s D n k) (hT : Touch T w w') (hTX : ∀ j, T j → ∃ x ∈ X, x.1 = j) (h0 : ∀ j, T j → w0.heap.size ≤ j) (hY : ∀ y ∈ Y, ((∃ x ∈ X, x.1 = y.1) ∨ w.heap.size ≤ y.1) ∧ w'.heap[y.1]? = some y.2) : LpX w0 w' Y p dp s D n k := by
  obtain ⟨O, OD, h, hX⟩ := h
  have hno : ∀ j, T j → ¬ (O j ∨ OD j) := fun j hj => by
    obtain ⟨x, hx, rfl⟩ := hTX j hj
    exact (hX x hx).2
  have hz := hT.size
  refine ⟨O, OD, ⟨h.pool.touch hT (fun j c e => hno j e (.inl c)), h.disk.touch hT (fun j c e => hno j e (.inr c)), h.ok, h.apart, h.low, fun j c => Nat.lt_of_lt_of_le (h.lt j c) hz, h.adds.then hT (fun j hj e => by have := h0 j e; omega), h.tab, h.good, h.pok⟩, fun y hy => ?_⟩
  obtain ⟨h1, h2⟩ := hY y hy
  refine ⟨h2, fun c => ?_⟩
  rcases h1 with ⟨x, hx, e⟩ | h1
  · rw [← e] at c; exact (hX x hx).2 c
  · have := h.lt _ c; omega
/-- A mark among the deferred calls. -/
abbrev mk (D : Nat) : Deferred := { target := .collected D, args := #[] }
abbrev dfr : Obj := .deferred (some [])
theorem leaves_marks {fn : Func} {tmps : Array Value} {R : Ending → World → Prop} : ∀ (ds : List Nat) (w : World), (∀ D ∈ ds, w.heap[D]? = some dfr) → ds.Nodup →
    (∀ w', Touch (fun j => j ∈ ds) w w' → LeavesInM Fence.wide 9 Tryz.prog fn tmps R [] .returning w') → LeavesInM Fence.wide 9 Tryz.prog fn tmps R (ds.map mk) .returning w
  | [], w, _, _, h => h w (Touch.refl _ w)
  | D :: ds, w, hd, hn, h => by
    have hK := hd D List.mem_cons_self
    have hT : Touch (fun j => j = D) w (w.putObj D (.deferred none)) := ⟨rfl, rfl, rfl, (grownBy_putObj' w D (.deferred none)).size, fun k _ hk => World.putObj_heap_other (by exact fun e => hk e)⟩
    refine ⟨by simp, .inl ⟨D, _, rfl, run_takeDeferred hK, leaves_marks ds _ (fun E hE => ?_) (List.nodup_cons.1 hn).2 (fun w' hw' => h w' ?_)⟩⟩
    · have hne : E ≠ D := fun e => (List.nodup_cons.1 hn).1 (by rw [← e]; exact hE)
      rw [hT.block E (Array.getElem?_eq_some_iff.1 (hd E (List.mem_cons_of_mem _ hE))).1 hne]
      exact hd E (List.mem_cons_of_mem _ hE)
    · exact (hT.mono (fun i _ e => by rw [e]; exact List.mem_cons_self)).then hw' (fun i _ hi => List.mem_cons_of_mem _ hi)
theorem ownFrom_touch {β : Type} {T : Nat → Prop} {w : World} : OwnFrom w.heap.size (fun (_ : β) W => Touch T w W) := fun _ A B row hs hg hr =>
  hs.then (U := fun k => row = some k) ⟨hg.os, hg.tape, hg.output, hg.size, fun k hk hn => hg.block k hk (fun e => hn e.symm)⟩ (fun i hi e => by have := (hr i e).1; omega)
/-- The numbers of the pages that have come and are taken. -/
def tkX (pre : List (Nat × Bool)) : List Int := (pre.filter (·.2)).map fun x => (x.1 : Int)
set_option maxRecDepth 100000 in
theorem tkX_more (pre : List (Nat × Bool)) (x : Nat × Bool) : tkX (pre ++ [x]) = if x.2 then tkX pre ++ [(x.1 : Int)] else tkX pre := by
  unfold tkX
  rw [List.filter_append, List.map_append]
  cases h : x.2 <;> simp [h]
set_option maxRecDepth 100000 in
theorem tkX_len (pre : List (Nat × Bool)) : (tkX pre).length ≤ pre.length := by
  unfold tkX
  rw [List.length_map]
  exact List.length_filter_le _ _
set_option maxRecDepth 100000 in
theorem tkX_ups {k : Nat} {bs : List UInt8} : ∀ (n : Nat) (pre : List (Nat × Bool)), Ups (fX k) (fun j b => b = G.bit bs j) n pre → tkX pre = G.tak k bs n
  | 0, pre, h => by
    obtain rfl : pre = [] := List.eq_nil_of_length_eq_zero h.1
    rfl
  | n + 1, pre, h => by
    obtain ⟨b, hb, hx⟩ := h.2 n (by omega)
    have e : pre = pre.take n ++ [fX k n b] := by
      have := List.take_append_getElem (l := pre) (i := n) (by rw [h.1]; omega)
      rw [List.getElem?_eq_getElem (by rw [h.1]; omega)] at hx
      rw [Option.some.inj hx] at this
      rw [this, ← h.1, List.take_length]
    have hu : Ups (fX k) (fun j b => b = G.bit bs j) n (pre.take n) := ⟨by rw [List.length_take, h.1]; omega, fun i hi => by
      obtain ⟨b', h2, h3⟩ := h.2 i (by omega)
      exact ⟨b', h2, by rw [List.getElem?_take, if_pos hi]; exact h3⟩⟩
    rw [e, tkX_more, tkX_ups n _ hu, G.tak_more, hb]
/-- Between two rounds of Taken's inner loop. -/
def TkI (N4 B : Nat) (z0 : List Int) (v0 : Value) (wN : World) (pre : List (Nat × Bool)) (W : World) : Prop := (∃ v, Boxed W N4 64 v ∧ W.ownsRow B 3 1 v (z0 ++ tkX pre).length (I (z0 ++ tkX pre)) ∧ (∀ j, v.ownBlock = some j → v0.ownBlock = some j ∨ wN.heap.size ≤ j)) ∧ Touch (fun j => j = N4 ∨ v0.ownBlock = some j) wN W
theorem TkI_own (N4 B : Nat) (z0 : List Int) (v0 : Value) (wN : World) : OwnFrom wN.heap.size (TkI N4 B z0 v0 wN) :=
  OwnFrom.and (Own.from (holdsRow_own B N4 64 3 1 (fun pre => (z0 ++ tkX pre).length) (fun pre => I (z0 ++ tkX pre)) (fun _ v => ∀ j, v.ownBlock = some j → v0.ownBlock = some j ∨ wN.heap.size ≤ j)) _) ownFrom_touch
set_option maxRecDepth 100000 in
/-- Append to a row of one's own, within a round: where the row has grown is told. -/
theorem append_at_in {F : Fence} {n : Nat} (w : World) {ops : Array Oper} {rest : List Oper} {o : Oper} {a : Act} {Q : Exit → Act → World → Prop} (hg : o.guard = none) (s x : Operand) (hop : o.op = Op.call { callee := Callee.builtin Builtin.append, args := #[s, x], argTypes := #[64, 64] })
    (base : Nat) (v : Value) (k : Nat) (xs : List Value) (hs : a.eval s = v) (hown : w.ownsRow base 3 1 v k xs) (gn : Nat) (z : Int) (hx : a.eval x = .slice (some ⟨gn, 0, none⟩) 1 1) (hc : w.cell? ⟨gn, 0, none⟩ = some (.int .i64 z)) (b1 : k ≤ 100000) (b3 : base ≤ w.heap.size)
    (hK : ∀ v' w', w'.ownsRow base 3 1 v' (k + 1) (xs ++ [.int .i64 z]) → w.grownBy w' v.ownBlock → (v'.ownBlock = v.ownBlock ∨ v'.ownBlock = some w.heap.size) → wpListIn F n Tryz.prog ops Q rest (a.put o.dst v') w') :
    wpListIn F n Tryz.prog ops Q (o :: rest) a w := by
  obtain ⟨i0, hi, hz0, hz1, hz2⟩ := info3
  refine wpListIn_plain hg fun K hK' => ?_
  obtain ⟨v', w', hrun, r1, r2, _, r4⟩ := run_append_own_at (P := Tryz.prog) w base 64 o.type 3 i0 (.int .i64 0) 1 8 Tryz.underlying64 hi hz0 hz1 hz2 rfl (by decide) v k xs hown ⟨gn, 0, none⟩ 1 1 [.int .i64 z] rfl (fun j u hj => by
    match j, hj with
    | 0, hj => obtain rfl := Option.some.inj hj; exact hc) (fun u hu => by rw [List.mem_singleton.1 hu]; rfl) (by unfold maxLen; omega) (by omega) b3
  unfold Oper.wpIn
  refine ⟨?_, ?_⟩
  · simp [Oper.about, hop, resolve, Target.leads, Sem.run_pure]
  · rw [Oper.semAt_plain F _ _ (by rw [hop]; intro c hc'; cases hc')]
    simp [execOp, hop, resolve, invoke, builtin, hs, hx, hrun, Result.andThen]
    exact hK' _ _ (hK v' w' r1 r2 r4)
end Go.Proofs.YtjlennpoaefllaaGreatDoor

/- Taken. -/
namespace Go.Proofs.YtjlennpoaefllaaGreatDoor
open Go.RowKit Go.Shelf
attribute [local go_sem] Oper.semAt_some

/-- What Taken leaves: the numbers lie in a block that is nobody's. -/
def PTkn (w0 : World) (X : List (Nat × Obj)) (p dp : Nat) (D : dSt) (n kk : Nat) (R : List Int × Nat × F.Po) (e : Ending) (w' : World) : Prop := ∃ v Y, e = .returned (.tuple #[v, .int .i64 (R.2.1 : Int)]) ∧ Hid (LpX w0 w' Y p dp R.2.2 D n kk ∧ (∀ x ∈ X, x ∈ Y) ∧ AgX Y v R.1)
set_option maxRecDepth 100000 in
theorem tk_bad {D : dSt} {r k : Nat} {s : F.Po} {l : List Int} (h : G.mapE s D k ≠ 0) : G.takenG D (r + 1) k s l = ([], G.mapE s D k, F.getS s D k) := by unfold G.takenG; rw [if_neg h]
set_option maxRecDepth 100000 in
theorem tk_next {D : dSt} {r k : Nat} {s : F.Po} {l : List Int} (h : G.mapE s D k = 0) : G.takenG D (r + 1) k s l = G.takenG D r (k + 1) (F.getS s D k) (l ++ G.taken k (G.mapB s D k)) := by conv => lhs; unfold G.takenG; rw [if_pos h]
/-- The blocks of Taken's walk. -/
structure TkY (w0 wr : World) (X Y : List (Nat × Obj)) (N4 : Nat) (v : Value) (zs : List Int) (ds : List Nat) : Prop where
  box : (N4, .cells #[v] 64 (0, 0)) ∈ Y
  row : wr.ownsRow w0.heap.size 3 1 v zs.length (I zs)
  own : ∀ j, v.ownBlock = some j → ∃ x ∈ Y, x.1 = j
  dfs : ∀ D ∈ ds, (D, dfr) ∈ Y
  nd : ds.Nodup
  rest : ∀ x ∈ X, x ∈ Y ∧ x.1 ≠ N4 ∧ v.ownBlock ≠ some x.1 ∧ ¬ x.1 ∈ ds
  apart : v.ownBlock ≠ some N4 ∧ ¬ N4 ∈ ds ∧ ∀ D ∈ ds, v.ownBlock ≠ some D
  low : w0.heap.size ≤ N4 ∧ ∀ D ∈ ds, w0.heap.size ≤ D
set_option maxRecDepth 100000 in
/-- The numbers, in a block that is nobody's. -/
theorem row_agx {w0 w : World} {Y : List (Nat × Obj)} {p dp : Nat} {s : F.Po} {D : dSt} {n k B : Nat} {v : Value} {zs : List Int} (h : LpX w0 w Y p dp s D n k) (hr : w.ownsRow B 3 1 v zs.length (I zs)) (ho : ∀ j, v.ownBlock = some j → ∃ x ∈ Y, x.1 = j) : AgX Y v zs := by
  rcases hr.2 with ⟨rfl, h0⟩ | ⟨g, cap, cur, rfl, hb, hg, h1, h2, h3, h4⟩
  · obtain rfl : zs = [] := List.eq_nil_of_length_eq_zero h0
    exact AgX.nil Y
  · obtain ⟨x, hx, e⟩ := ho g rfl
    have hxo : x = (g, .cells cur 3 (0, 0)) := by
      have q := h.at x hx
      rw [e, hg] at q
      exact Prod.ext e (Option.some.inj q).symm
    refine ⟨_, cap, rfl, fun i hi => ⟨g, 0, cur, _, rfl, by rw [hxo] at hx; exact hx, ?_⟩⟩
    rw [Nat.zero_add, ← Array.getElem?_toList]
    have h5 : (I zs)[i]? = some (.int .i64 zs[i]) := by simp [I, hi]
    rw [← h4, List.getElem?_take] at h5
    split at h5
    · exact h5
    · cases h5
/-- The block of a row. -/
def rowBk (W : World) (v : Value) : List (Nat × Obj) := match v.ownBlock with
  | some j => (match W.heap[j]? with
    | some o => [(j, o)]
    | none => [])
  | none => []
set_option maxRecDepth 100000 in
theorem mem_rowBk {W : World} {v : Value} {y : Nat × Obj} : y ∈ rowBk W v ↔ v.ownBlock = some y.1 ∧ W.heap[y.1]? = some y.2 := by
  unfold rowBk
  cases hv : v.ownBlock with
  | none => simp
  | some j =>
    show y ∈ (match W.heap[j]? with
      | some o => [(j, o)]
      | none => []) ↔ _
    cases hw : W.heap[j]? with
    | none =>
      constructor
      · intro q; cases q
      · rintro ⟨e1, e2⟩
        rw [← Option.some.inj e1, hw] at e2
        cases e2
    | some o =>
      constructor
      · intro q
        rw [List.mem_singleton.1 q]
        exact ⟨rfl, hw⟩
      · rintro ⟨e1, e2⟩
        rw [← Option.some.inj e1, hw] at e2
        exact List.mem_singleton.2 (Prod.ext (Option.some.inj e1).symm (Option.some.inj e2).symm)
set_option maxRecDepth 100000 in
theorem row_in {W : World} {B e n : Nat} {v : Value} {xs : List Value} (h : W.ownsRow B e 1 v n xs) {j : Nat} (hj : v.ownBlock = some j) : ∃ x ∈ rowBk W v, x.1 = j := by
  have hl := (row_low h hj).2
  exact ⟨(j, W.heap[j]), mem_rowBk.2 ⟨hj, Array.getElem?_eq_getElem hl⟩, rfl⟩
set_option maxRecDepth 100000 in
/-- A row lies as it lay, where its block is nobody's. -/
theorem row_keepX {w0 w w' : World} {Y : List (Nat × Obj)} {p dp p' dp' : Nat} {s s' : F.Po} {D D' : dSt} {n k n' k' B e m : Nat} {v : Value} {xs : List Value} (h : LpX w0 w Y p dp s D n k) (h' : LpX w0 w' Y p' dp' s' D' n' k') (hr : w.ownsRow B e 1 v m xs) (ho : ∀ j, v.ownBlock = some j → ∃ x ∈ Y, x.1 = j) : w'.ownsRow B e 1 v m xs := by
  refine ⟨hr.1, ?_⟩
  rcases hr.2 with q | ⟨g, cap, cur, rfl, hb, hg, rest⟩
  · exact .inl q
  · obtain ⟨x, hx, rfl⟩ := ho g rfl
    have q := h.at x hx
    rw [hg] at q
    exact .inr ⟨x.1, cap, cur, rfl, hb, by rw [h'.at x hx, q], rest⟩
set_option maxRecDepth 100000 in
/-- The marks are taken away: what is left. -/
theorem TkY.leave {w0 w w' : World} {X Y : List (Nat × Obj)} {p dp : Nat} {s : F.Po} {D : dSt} {n k N4 : Nat} {v : Value} {zs : List Int} {ds : List Nat} (h : LpX w0 w Y p dp s D n k) (hY : TkY w0 w X Y N4 v zs ds) (hT : Touch (fun j => j ∈ ds) w w') : LpX w0 w' (rowBk w' v ++ X) p dp s D n k ∧ AgX (rowBk w' v ++ X) v zs := by
  have hrow : w'.ownsRow w0.heap.size 3 1 v zs.length (I zs) := row_touch hY.row hT (fun j hj hd => hY.apart.2.2 j hd hj)
  have h' : LpX w0 w' (rowBk w' v ++ X) p dp s D n k := by
    refine h.turns hT (fun j hj => ⟨_, hY.dfs j hj, rfl⟩) (fun j hj => hY.low.2 j hj) (fun y hy => ?_)
    rcases List.mem_append.1 hy with hy | hy
    · obtain ⟨e1, e2⟩ := mem_rowBk.1 hy
      exact ⟨.inl (hY.own _ e1), e2⟩
    · obtain ⟨q1, _, _, q4⟩ := hY.rest y hy
      exact ⟨.inl ⟨y, q1, rfl⟩, by rw [hT.block y.1 (Array.getElem?_eq_some_iff.1 (h.at y q1)).1 q4]; exact h.at y q1⟩
  exact ⟨h', row_agx h' hrow (fun j hj => by obtain ⟨x, hx, e⟩ := row_in hrow hj; exact ⟨x, List.mem_append_left _ hx, e⟩)⟩
set_option maxRecDepth 100000 in
/-- One map more. -/
theorem TkY.more {w0 w1 w2 W : World} {X Y : List (Nat × Obj)} {gx : Nat × Obj} {p dp : Nat} {s : F.Po} {D : dSt} {n k N4 D2 : Nat} {v v' : Value} {zs zs' : List Int} {ds : List Nat} (h : LpX w0 w1 (gx :: Y) p dp s D n k) (hY : TkY w0 w1 X Y N4 v zs ds) (hA : Adds w1 w2) (hT : Touch (fun j => j = N4 ∨ v.ownBlock = some j) w2 W)
    (hb : Boxed W N4 64 v') (hr : W.ownsRow w0.heap.size 3 1 v' zs'.length (I zs')) (ho : ∀ j, v'.ownBlock = some j → v.ownBlock = some j ∨ w2.heap.size ≤ j) (hD : w2.heap.size ≤ D2) (hK : W.heap[D2]? = some dfr) :
    ∃ Y', LpX w0 W Y' p dp s D n k ∧ TkY w0 W X Y' N4 v' zs' (D2 :: ds) := by
  have hz := hA.size
  have lt : ∀ x ∈ Y, x.1 < w1.heap.size := fun x hx => (Array.getElem?_eq_some_iff.1 (h.at x (List.mem_cons_of_mem _ hx))).1
  have hT1 : Touch (fun j => j = N4 ∨ v.ownBlock = some j) w1 W := (hA.mono (fun _ _ c => c.elim)).then hT (fun i _ c => c)
  have hN4 := lt _ hY.box
  have hdl : ∀ E ∈ ds, E < w1.heap.size := fun E hE => lt _ (hY.dfs E hE)
  have hD0 : w0.heap.size ≤ w1.heap.size := h.e.adds.size
  have keep : ∀ x ∈ Y, x.1 ≠ N4 → v.ownBlock ≠ some x.1 → W.heap[x.1]? = some x.2 := fun x hx q1 q2 => by
    rw [hT1.block x.1 (lt x hx) (fun c => by rcases c with c | c; exact q1 c; exact q2 c)]
    exact h.at x (List.mem_cons_of_mem _ hx)
  have hvN : ∀ j, v'.ownBlock = some j → j < w1.heap.size → v.ownBlock = some j := fun j hj hl => by
    rcases ho j hj with c | c
    · exact c
    · omega
  have hrc : ∀ j, v'.ownBlock = some j → ∃ cur, W.heap[j]? = some (.cells cur 3 (0, 0)) := fun j hj => by
    rcases hr.2 with ⟨rfl, _⟩ | ⟨g, cap, cur, rfl, _, hg, _⟩
    · cases hj
    · obtain rfl : g = j := by simpa [Value.ownBlock] using hj
      exact ⟨cur, hg⟩
  refine ⟨(N4, .cells #[v'] 64 (0, 0)) :: (D2, dfr) :: (rowBk W v' ++ (X ++ ds.map fun E => (E, dfr))), h.turns hT1 (fun j hj => ?_) (fun j hj => ?_) (fun y hy => ?_), ⟨List.mem_cons_self, hr, fun j hj => ?_, fun E hE => ?_, List.nodup_cons.2 ⟨fun hE => by have := hdl D2 hE; omega, hY.nd⟩, fun x hx => ?_, ⟨fun hj => ?_, fun hj => ?_, fun E hE hj => ?_⟩, ⟨hY.low.1, fun E hE => ?_⟩⟩⟩
  · rcases hj with rfl | hj
    · exact ⟨_, List.mem_cons_of_mem _ hY.box, rfl⟩
    · obtain ⟨x, hx, e⟩ := hY.own j hj
      exact ⟨x, List.mem_cons_of_mem _ hx, e⟩
  · rcases hj with rfl | hj
    · exact hY.low.1
    · exact (row_low hY.row hj).1
  · rcases List.mem_cons.1 hy with rfl | hy
    · exact ⟨.inl ⟨_, List.mem_cons_of_mem _ hY.box, rfl⟩, hb⟩
    · rcases List.mem_cons.1 hy with rfl | hy
      · exact ⟨.inr (Nat.le_trans hz hD), hK⟩
      · rcases List.mem_append.1 hy with hy | hy
        · obtain ⟨e1, e2⟩ := mem_rowBk.1 hy
          refine ⟨?_, e2⟩
          rcases ho _ e1 with c | c
          · obtain ⟨x, hx, e⟩ := hY.own _ c
            exact .inl ⟨x, List.mem_cons_of_mem _ hx, e⟩
          · exact .inr (Nat.le_trans hz c)
        · rcases List.mem_append.1 hy with hy | hy
          · obtain ⟨q1, q2, q3, _⟩ := hY.rest y hy
            exact ⟨.inl ⟨y, List.mem_cons_of_mem _ q1, rfl⟩, keep y q1 q2 q3⟩
          · obtain ⟨E, hE, rfl⟩ := List.mem_map.1 hy
            exact ⟨.inl ⟨_, List.mem_cons_of_mem _ (hY.dfs E hE), rfl⟩, keep (E, dfr) (hY.dfs E hE) (fun e => hY.apart.2.1 (by rw [← e]; exact hE)) (hY.apart.2.2 E hE)⟩
  · obtain ⟨x, hx, e⟩ := row_in hr hj
    exact ⟨x, List.mem_cons_of_mem _ (List.mem_cons_of_mem _ (List.mem_append_left _ hx)), e⟩
  · rcases List.mem_cons.1 hE with rfl | hE
    · exact List.mem_cons_of_mem _ List.mem_cons_self
    · exact List.mem_cons_of_mem _ (List.mem_cons_of_mem _ (List.mem_append_right _ (List.mem_append_right _ (List.mem_map_of_mem (f := fun E => (E, dfr)) hE))))
  · obtain ⟨q1, q2, q3, q4⟩ := hY.rest x hx
    have hl := lt x q1
    refine ⟨List.mem_cons_of_mem _ (List.mem_cons_of_mem _ (List.mem_append_right _ (List.mem_append_left _ hx))), q2, fun e => q3 (hvN _ e hl), fun e => ?_⟩
    rcases List.mem_cons.1 e with e | e
    · omega
    · exact q4 e
  · exact hY.apart.1 (hvN _ hj hN4)
  · rcases List.mem_cons.1 hj with e | e
    · have := hN4; have e' : N4 = D2 := e; omega
    · exact hY.apart.2.1 e
  · rcases List.mem_cons.1 hE with rfl | hE
    · obtain ⟨cur, hc⟩ := hrc _ hj
      rw [hK] at hc
      cases hc
    · exact hY.apart.2.2 E hE (hvN _ hj (hdl E hE))
  · rcases List.mem_cons.1 hE with rfl | hE
    · omega
    · exact hY.low.2 E hE
theorem TkY.keep {w0 w w' : World} {X Y : List (Nat × Obj)} {p dp : Nat} {s s' : F.Po} {D : dSt} {n n' k N4 : Nat} {v : Value} {zs : List Int} {ds : List Nat} (h : LpX w0 w Y p dp s D n k) (h' : LpX w0 w' Y p dp s' D n' k) (hY : TkY w0 w X Y N4 v zs ds) : TkY w0 w' X Y N4 v zs ds :=
  ⟨hY.box, row_keepX h h' hY.row hY.own, hY.own, hY.dfs, hY.nd, hY.rest, hY.apart, hY.low⟩
theorem tak_len (k : Nat) (bs : List UInt8) : (G.taken k bs).length ≤ 8 * bs.length := G.len_tak k bs _
set_option maxRecDepth 100000 in
set_option maxHeartbeats 4000000 in
theorem staken_any {w0 w : World} {X : List (Nat × Obj)} {p dp : Nat} {s : F.Po} {D : dSt} {n kk sp : Nat} (h : LpX w0 w X p dp s D n kk) (hX : (sp, SBox p) ∈ X) (hn : n + 10 ≤ 1000000) (hk9 : kk ≤ 900) :
    Calls Tryz.prog 29 #[Ptr sp] w (PTkn w0 X p dp D (n + 10) kk (G.takenG D (G.maps (G.cnt s)) 0 s [])) := by
  have hc := h.pok.cnt
  have hm3 := G.maps_le hc.2.1
  obtain ⟨M, hM⟩ : ∃ M, M = G.maps (G.cnt s) := ⟨_, rfl⟩
  obtain ⟨N4, hN4⟩ : ∃ N4, N4 = w.heap.size := ⟨_, rfl⟩
  obtain ⟨wA, hwA⟩ : ∃ wA, wA = w.alloc (.cells #[.slice none 0 0] 64) := ⟨_, rfl⟩
  have h1 : LpX w0 wA ((N4, .cells #[.slice none 0 0] 64 (0, 0)) :: X) p dp s D n kk := by rw [hwA, hN4]; exact h.more ((Touch.refl _ w).alloc _) w.heap.size _ (heap_alloc_new w _) (Nat.le_refl _)
  have H1 := hid (smade_any (h.spc hX) hc.1)
  have H2 := hid (smaps_any (h1.spc (List.mem_cons_of_mem _ hX)) hc.2.1)
  obtain ⟨R, hR⟩ : ∃ R, R = G.takenG D (G.maps (G.cnt s)) 0 s [] := ⟨_, rfl⟩
  rw [← hR]
  rw [← hM] at H2 hm3 hR
  have HY0 := hid (show TkY w0 wA X ((N4, .cells #[.slice none 0 0] 64 (0, 0)) :: X) N4 (.slice none 0 0) [] [] from
    ⟨List.mem_cons_self, World.ownsRow_nil _ _ _ _, fun j hj => (by cases hj), fun D hD => (by cases hD), List.nodup_nil, fun x hx => ⟨List.mem_cons_of_mem _ hx, fun e => by have := (Array.getElem?_eq_some_iff.1 (h.at x hx)).1; omega, fun e => (by cases e), fun e => (by cases e)⟩, ⟨fun e => (by cases e), fun e => (by cases e), fun D hD => (by cases hD)⟩, ⟨by rw [hN4]; exact h.e.adds.size, fun D hD => (by cases hD)⟩⟩)
  have HX := hid hX
  have H0 := hid (And.intro h1 (And.intro hR (And.intro hn (And.intro hk9 hM))))
  clear h hX hc hM hR hn hk9 h1
  refine calls_marks Tryz.func29 rfl ?_
  simp only [Tryz.ntmps29, List.size_toArray, List.length_cons, List.length_nil, Nat.reduceAdd, Nat.reduceSub, Array.replicate_succ, Array.replicate_zero, List.push_toArray, List.append_toArray, List.nil_append, List.cons_append]
  go_upto_region 4 with (go_at_call 35; refine H1.out.mono ?_; rintro e w1 ⟨rfl, hw⟩; rw [hw]; clear hw)
  rw [← hwA, ← hN4]
  clear hwA hN4
  go_wp2_with (go_at_call 36; refine H2.out.mono ?_; rintro e w1 ⟨rfl, hw⟩; rw [hw]; clear hw)
  refine wp_loop (fun a W => ∃ (k : Nat) (ds : List Nat) (s' : F.Po) (v : Value) (Y : List (Nat × Obj)) (zs : List Int) (u5 u6 u7 u8 u9 u16 u17 u18 u19 u20 u21 u22 u23 u24 u25 u26 u27 u28 u29 u30 u31 u32 u33 u34 u35 u36 u37 : Value), a = { tmps := #[Ptr sp, undef, .slice none 0 0, .int .i64 0, .pointer (some ⟨N4, 0, none⟩), u5, u6, u7, u8, u9, Ptr sp, .bool true, .bool false, Ptr sp, .int .i64 (M : Int), .int .i64 (k : Int), u16, u17, u18, u19, u20, u21, u22, u23, u24, u25, u26, u27, u28, u29, u30, u31, u32, u33, u34, u35, u36, u37, undef], defers := ds.map mk } ∧ k ≤ M ∧ Hid (LpX w0 W Y p dp s' D (n + k) kk ∧ TkY w0 W X Y N4 v zs ds ∧ G.takenG D (M - k) k s' zs = R ∧ G.cnt s' = G.cnt s ∧ zs.length ≤ 1920 * k)) (fun a _ => M - (intOf (a.tmps.getD 15 undef)).toNat) ?_ ?_
  · exact ⟨0, [], s, .slice none 0 0, _, [], undef, undef, undef, undef, undef, undef, undef, undef, undef, undef, undef, undef, undef, undef, undef, undef, undef, undef, undef, undef, undef, undef, undef, undef, undef, undef, undef, rfl, Nat.zero_le _, H0.out.1, HY0.out, H0.out.2.1.symm, rfl, Nat.zero_le _⟩
  · rintro a W ⟨k, ds, s', v, Y, zs, u5, u6, u7, u8, u9, u16, u17, u18, u19, u20, u21, u22, u23, u24, u25, u26, u27, u28, u29, u30, u31, u32, u33, u34, u35, u36, u37, rfl, hk, HI⟩
    by_cases hlt : k < M
    · have hlt' : (k : Int) < (M : Int) := by omega
      have hr : M - k = (M - (k + 1)) + 1 := by omega
      have hkm : k < G.maps (G.cnt s') := by rw [HI.out.2.2.2.1, ← H0.out.2.2.2.2]; exact hlt
      have HR := HI.out.2.2.1
      rw [hr] at HR
      have HXY := hid (HI.out.2.1.rest _ HX.out).1
      by_cases hz : G.mapE s' D k = 0
      · have HG := hid (sget_ok HI.out.1 HXY.out (by have := H0.out.2.2.1; omega) H0.out.2.2.2.1 hkm hz)
        have hxl := G.may_len (G.mapB_may hz).2.2.1
        have hx1 := G.cells_pos hkm
        have hx2 := G.cells_le (G.cnt s') k
        rw [tk_next hz] at HR
        have HR := hid HR
        have hct := G.get_ct s' D (k : Int)
        generalize G.mapB s' D k = x at *
        generalize F.getS s' D k = s2 at *
        obtain ⟨xl, hxl'⟩ : ∃ xl, xl = x.length := ⟨_, rfl⟩
        have HL := hid (And.intro hxl' (And.intro (show 1 ≤ xl by omega) (And.intro (show xl ≤ 240 by omega) (And.intro hct hm3))))
        clear hz hr hkm hxl hx1 hx2 hct hxl'
        go_wp2_with (first
          | (go_at_call 70; refine HG.out.mono ?_; rintro e w1 ⟨g, cap, cur, rfl, H3⟩; rw [← HL.out.1])
          | (go_at_call 71; refine (bits_any w1 k (.slice (some ⟨g, 0, none⟩) xl cap) ⟨_, _, _, rfl⟩).mono ?_; rintro e w2 ⟨rfl, hw⟩; have HW := hid hw; clear hw))
        have hsz : w2.heap.size = w1.heap.size + 2 := by rw [HW.out]; simp
        have hA12 : Adds w1 w2 := by rw [HW.out]; exact ((Touch.refl _ w1).alloc _).alloc _
        have hY1 := HI.out.2.1.keep HI.out.1 H3.out.2.2.1.cdr
        have lt : ∀ y ∈ Y, y.1 < w1.heap.size := fun y hy => (Array.getElem?_eq_some_iff.1 (H3.out.2.2.1.cdr.at y hy)).1
        have hg : g < w1.heap.size := (Array.getElem?_eq_some_iff.1 (H3.out.2.2.1.at _ List.mem_cons_self)).1
        have hN4 : N4 < w1.heap.size := lt _ hY1.box
        have hgN : N4 ≠ g := H3.out.2.2.2.2 _ hY1.box
        have hw01 : w0.heap.size ≤ w1.heap.size := H3.out.2.2.1.e.adds.size
        have hvl : ∀ j, v.ownBlock = some j → j < w1.heap.size ∧ j ≠ g := fun j hj => by
          obtain ⟨y, hy, rfl⟩ := hY1.own j hj
          exact ⟨lt y hy, H3.out.2.2.2.2 y hy⟩
        have HY1 := hid hY1
        have hI0 : TkI N4 w0.heap.size zs v w2 [] w2 := by
          refine ⟨⟨v, ?_, ?_, fun j hj => .inl hj⟩, Touch.refl _ w2⟩
          · show w2.heap[N4]? = _
            rw [hA12.block N4 hN4 id]
            exact H3.out.2.2.1.cdr.at _ hY1.box
          · rw [show zs ++ tkX [] = zs from List.append_nil zs]
            exact row_touch hY1.row hA12 (fun _ _ => id)
        have hzl := HI.out.2.2.2.2
        refine (wpIn_wide (n := 9)).1 (wpIn_rangeFunc_ownF (F := Fence.wide) (n := 9) rfl (by omega) (gf := 118) (lb := #[Ptr (w1.heap.size + 1), Ptr w1.heap.size]) rfl trivial (enters_of Tryz.func118 (by kernel_rfl) rfl)
          (bits_reads HW.out (H3.out.2.2.1.bytes H3.out.1) HL.out.1.symm HL.out.2.1 HL.out.2.2.1 (by omega) 8 (by omega)) (fun h k => kp3_t h k) (kp3_b (fun j hj => by simp at hj; omega)) (Below.refl _ _) (fun _ => rfl)
          (TkI N4 w0.heap.size zs v w2) (fun _ _ _ => False) (TkI_own _ _ _ _ _) (fun _ _ _ _ _ hs _ _ => hs) hI0
          (fun x => { tmps := #[Ptr sp, undef, Value.slice none 0 0, Value.int IntKind.i64 0, Value.pointer (some ⟨N4, 0, none⟩), Value.int IntKind.i64 (k : Int), Value.slice (some ⟨g, 0, none⟩) xl cap, Value.int IntKind.i64 0, .int .i64 (x.1 : Int), .bool x.2, Ptr sp, Value.bool true, Value.bool false, Ptr sp, Value.int IntKind.i64 (M : Int), Value.int IntKind.i64 (k : Int), Value.bool true, Value.int IntKind.i64 (k : Int), Value.tuple #[Value.slice (some ⟨g, 0, none⟩) xl cap, Value.int IntKind.i64 0], Ptr sp, Value.int IntKind.i64 (k : Int), Value.tuple #[Value.slice (some ⟨g, 0, none⟩) xl cap, Value.int IntKind.i64 0], Value.slice (some ⟨g, 0, none⟩) xl cap, Value.int IntKind.i64 0, Value.int IntKind.i64 0, Value.bool false, u26, Value.int IntKind.i64 (k : Int), Value.slice (some ⟨g, 0, none⟩) xl cap, Value.func (Fn.func 118) #[] #[Ptr (w1.heap.size + 1), Ptr w1.heap.size], .int .i64 (x.1 : Int), .bool x.2, u32, u33, u34, u35, u36, u37, undef], defers := [] }) ?assign ?body ?done ?stop)
        case assign =>
          intro l x W K hK
          gi_wp2
          exact hK
        case body =>
          rintro l pre x W' ⟨⟨v', hv, hrow, hown⟩, hT⟩ hlt2
          have hW' := hT.size
          have hpl := tkX_len pre
          have hll : (zs ++ tkX pre).length ≤ 100000 := by rw [List.length_append]; have := HL.out.2.2.1; omega
          have hKp : ∀ W3, Touch (fun j => j = N4 ∨ v'.ownBlock = some j) W' W3 → Kp3 [g, w1.heap.size, w1.heap.size + 1] W' W3 := fun W3 h3 j hj => by
            refine h3.block j (by simp at hj; omega) (fun c => ?_)
            rcases c with c | c
            · simp at hj; omega
            · rcases hown j c with c | c
              · have := hvl j c; simp at hj; omega
              · simp at hj; omega
          by_cases ht : x.2 = true
          · have hc := hv.cell
            obtain ⟨L0, hL0⟩ : ∃ L0, L0 = (zs ++ tkX pre).length := ⟨_, rfl⟩
            rw [← hL0] at hrow hll
            have HL0 := hid hL0
            rw [ht]
            clear hL0
            gi_wp2_with (gi_at_builtin; refine append_at_in _ rfl _ _ rfl w0.heap.size v' L0 (I (zs ++ tkX pre)) rfl (hrow.alloc _) W'.heap.size (x.1 : Int) rfl (Boxed.new W' 3 (.int .i64 (x.1 : Int))).cell hll (by simp; omega) ?_; intro v'' w3 hown' hgrow hat; obtain ⟨g', cap', rfl⟩ := ownsRow_succ hown'; obtain ⟨hv1, hv2, hr2, hk2, hb2⟩ := hv.appended (by decide) hrow (by omega) HY1.out.low.1 hown' hgrow; have hc1 := hv1.cell; have hf1 := hv1.frozen)
            have hT3 : Touch (fun j => j = N4 ∨ v'.ownBlock = some j) W' (w3.setCell ⟨N4, 0, none⟩ (.slice (some ⟨g', 0, none⟩) (L0 + 1) cap')) := Touch.setCell (((Touch.refl _ W').alloc _).grown hgrow (fun j e _ => .inr e)) (p := ⟨N4, 0, none⟩) (fun _ => .inl rfl) _
            refine ⟨hk2, hKp _ hT3, ⟨_, hv2, ?_, fun j hj => ?_⟩, hT.then hT3 (fun i hi c => ?_)⟩
            · rw [tkX_more, if_pos ht, ← List.append_assoc, List.length_append, ← HL0.out]
              rw [show I (zs ++ tkX pre ++ [(x.1 : Int)]) = I (zs ++ tkX pre) ++ [.int .i64 (x.1 : Int)] by simp [I]]
              exact hr2
            · rcases hat with c | c
              · exact hown j (c ▸ hj)
              · rw [hj] at c
                have c' := Option.some.inj c
                rw [World.size_alloc] at c'
                exact .inr (by omega)
            · rcases c with c | c
              · exact .inl c
              · rcases hown i c with c | c
                · exact .inr c
                · omega
          · have ht' : x.2 = false := by simpa using ht
            rw [ht']
            gi_wp2
            exact ⟨KeepsOthers.refl _, fun _ _ => rfl, ⟨v', hv, by rw [tkX_more, if_neg ht]; exact hrow, hown⟩, hT⟩
        case done =>
          rintro D2 xs W' hD hS ⟨⟨v', hv, hrow, hown⟩, hT⟩ hK
          obtain ⟨Y', h5, h6⟩ := HY1.out.more H3.out.2.2.1 hA12 hT hv hrow hown hD hK
          have hxs : tkX xs = G.taken k x := by rw [tkX_ups _ xs hS, HL.out.1]; rfl
          have hxl : (tkX xs).length ≤ 1920 := by rw [hxs]; have := tak_len k x; have := HL.out.2.2.1; have := HL.out.1; omega
          have H5 := hid (And.intro h5 (And.intro h6 (And.intro hxs hxl)))
          clear hv hrow hown hT hK hS h5 h6 hxs hxl hI0 hvl lt
          go_wp2_with fail
          refine ⟨⟨k + 1, D2 :: ds, s2, v', Y', zs ++ tkX xs, _, _, _, _, _, _, _, _, _, _, _, _, _, _, _, _, _, _, _, _, _, _, _, _, _, _, _, rfl, by omega, H5.out.1.le (by omega), H5.out.2.1, by rw [H5.out.2.2.1]; exact HR.out, by rw [HL.out.2.2.2.1]; exact HI.out.2.2.2.1, ?_⟩, ?_⟩
          · rw [List.length_append]
            have := H5.out.2.2.2
            omega
          · simp [intOf]
            omega
        case stop =>
          rintro D2 cd pre W' _ _ h _
          exact h.elim
      · have HG := hid (sget_bad HI.out.1 HXY.out (by have := H0.out.2.2.1; omega) H0.out.2.2.2.1 hkm hz)
        rw [tk_bad hz] at HR
        have HR := hid HR
        have hz1 : ((G.mapE s' D k : Int) != 0) = true := by simp; omega
        have hz2 : ¬ (G.mapE s' D k : Int) = 0 := by omega
        generalize G.mapE s' D k = ze at *
        clear hz hr hkm
        go_wp2_with (go_at_call 70; refine HG.out.mono ?_; rintro e w1 ⟨rfl, H3⟩)
        have hY1 := HI.out.2.1.keep HI.out.1 H3.out
        refine leaves_marks ds w1 (fun E hE => H3.out.at _ (hY1.dfs E hE)) hY1.nd (fun w' hw' => ?_)
        obtain ⟨q1, _⟩ := hY1.leave H3.out hw'
        refine ⟨.tuple #[.slice none 0 0, .int .i64 (ze : Int)], by simp [results, Tryz.f29, go_sem], .slice none 0 0, X, by rw [← HR.out], ?_⟩
        rw [← HR.out]
        exact ⟨(q1.fewer (fun x hx => List.mem_append_right _ hx)).le (by omega), fun x hx => hx, AgX.nil X⟩
    · obtain rfl : k = M := by omega
      have HR := hid HI.out.2.2.1
      rw [Nat.sub_self] at HR
      have cb : W.cell? ⟨N4, 0, none⟩ = some v := by rw [cellOf (HI.out.1.at _ HI.out.2.1.box)]; rfl
      obtain ⟨va, vc, hv, _, _, _⟩ := own_cq HI.out.2.1.row
      subst hv
      go_wp2_with fail
      refine leaves_marks ds W (fun E hE => HI.out.1.at _ (HI.out.2.1.dfs E hE)) HI.out.2.1.nd (fun w' hw' => ?_)
      obtain ⟨q1, q2⟩ := HI.out.2.1.leave HI.out.1 hw'
      refine ⟨.tuple #[.slice va zs.length vc, .int .i64 0], by simp [results, Tryz.f29, go_sem], .slice va zs.length vc, rowBk w' (.slice va zs.length vc) ++ X, by rw [← HR.out]; rfl, ?_⟩
      rw [← HR.out]
      exact ⟨q1.le (by omega), fun x hx => List.mem_append_right _ hx, q2⟩
end Go.Proofs.YtjlennpoaefllaaGreatDoor
