/- The reference's Seal and Open of a page; PageOpens. -/
import Derived.Test.YtidkmamjhpckgaaDoorPSeal
import Derived.Test.YtidkmamjhpckgaaDoorRParse
import Derived.Test.YtidkmamjhpckgaaDoorPLaw1
import Derived.BigQuiet
namespace Go.Proofs.YtidkmamjhpckgaaDoor
open Go.RowKit

set_option maxRecDepth 100000 in
theorem rparse9 (a : Option Addr) (bs : List UInt8) (n cap : Nat) (w : World) (hn : bs.length = n) (hc : n ≤ cap) (hA : At w a bs) : Calls Tryd.prog 16 #[.slice a n cap] w (PParse w bs) := by
  by_cases h : n = 256
  · subst h
    obtain ⟨b, o, rfl, _⟩ := hA 0 bs[0] (List.getElem?_eq_getElem (by omega))
    by_cases h2 : 127 < (bs.getD 0 0).toNat ∨ M.pKd bs = 0
    · exact rparse_head b o bs cap w hn hA h2
    · exact rparse_256 b o bs cap w hn hc hA (fun c => h2 (.inl c)) (fun c => h2 (.inr c))
  · exact rparse_long a bs n cap w hn h
set_option maxRecDepth 100000 in
theorem rparse9_none {bs : List UInt8} (hR : M.readP bs = none) (a : Option Addr) (n cap : Nat) (w : World) (hn : bs.length = n) (hc : n ≤ cap) (hA : At w a bs) : Calls Tryd.prog 16 #[.slice a n cap] w (fun e w' => ∃ va vc, e = .returned (.tuple #[.agg #[.int .i64 0, .int .u8 0, .slice va 0 vc], .bool false]) ∧ Adds w w') := by
  refine (rparse9 a bs n cap w hn hc hA).mono ?_
  rintro e w' ⟨va, vc, hs, rfl, H⟩
  obtain ⟨h1, h2, h3, _⟩ := M.none_all hR
  have h4 := H.out.1
  rw [h3] at h4
  obtain rfl : hs = [] := List.map_eq_nil_iff.1 h4
  exact ⟨va, vc, by rw [h1, h2, hR]; rfl, H.out.2.2.1⟩
set_option maxRecDepth 100000 in
theorem rparse9_some {bs : List UInt8} {p : M.Pg} (hR : M.readP bs = some p) (a : Option Addr) (n cap : Nat) (w : World) (hn : bs.length = n) (hc : n ≤ cap) (hA : At w a bs) : Calls Tryd.prog 16 #[.slice a n cap] w (fun e w' => ∃ va vc, ∃ hs : List Part, e = .returned (.tuple #[.agg #[.int .i64 (p.no : Int), .int .u8 (p.kind.toNat : Int), .slice va p.cells.length vc], .bool true]) ∧ Hid (hs.map (·.bs) = p.cells ∧ GQ w' (fun _ => True) ⟨va, vc, hs⟩ ∧ Adds w w' ∧ hs.length = p.cells.length)) := by
  refine (rparse9 a bs n cap w hn hc hA).mono ?_
  rintro e w' ⟨va, vc, hs, rfl, H⟩
  obtain ⟨h1, h2, h3, _⟩ := M.some_all hR
  have h4 := H.out.1
  rw [h3] at h4
  have h5 : hs.length = p.cells.length := by rw [← h4, List.length_map]
  exact ⟨va, vc, hs, by rw [h1, h2, hR, h5]; rfl, h4, H.out.2.1, H.out.2.2.1, h5⟩
set_option maxRecDepth 100000 in
set_option maxHeartbeats 1000000 in
theorem rseal9_none {bs : List UInt8} (hR : M.readP bs = none) (a : Option Addr) (n cap : Nat) (w : World) (hn : bs.length = n) (hc : n ≤ cap) (hA : At w a bs) : Calls Tryd.prog 7 #[.slice a n cap] w (fun e w' => e = .returned (.tuple #[.slice none 0 0, .int .i64 22]) ∧ Adds w w') := by
  have H := hid (rparse9_none hR a n cap w hn hc hA)
  clear hA hn
  go_enter Tryd.func7, Tryd.ntmps7
  go_wp2_with (go_at_call 16; refine H.out.mono ?_; rintro e w1 ⟨va, vc, rfl, hA1⟩; have HA1 := hid hA1; clear hA1)
  go_ret2
  exact ⟨rfl, HA1.out.alloc _⟩
set_option maxRecDepth 100000 in
set_option maxHeartbeats 1000000 in
theorem rseal9_some {bs : List UInt8} {p : M.Pg} (hR : M.readP bs = some p) (a : Option Addr) (cap : Nat) (w : World) (hn : bs.length = 256) (hc : 256 ≤ cap) (hA : At w a bs) : Calls Tryd.prog 7 #[.slice a 256 cap] w (PSealed w (sealed (bs.take 252))) := by
  have H := hid (rparse9_some hR a 256 cap w hn hc hA)
  obtain ⟨b, o, rfl⟩ := hA.ad (by omega)
  have l2 : (bs.take 252).length = 252 := by rw [List.length_take]; omega
  have HS := hid (fun w1 (hA1 : Adds w w1) => show Calls Tryd.prog 17 #[.slice (some ⟨b, o, none⟩) 252 cap] w1 (PSeal w1 (bs.take 252)) by
    have q := rseal_any (some ⟨b, o, none⟩) (bs.take 252) cap w1 (by omega) (fun e => by cases e) ((hA.pre 252).adds hA1)
    rw [l2] at q
    exact q)
  have HL := hid l2
  have hs1 : ∀ w', (Instr.sliceAt 22 (.slice (some ⟨b, o, none⟩) 256 cap) none (some (.int .i64 252)) none).run Tryd.prog w' = .ok (.slice (some ⟨b, o, none⟩) 252 cap) w' := fun w' => run_pre (some ⟨b, o, none⟩) 256 cap 252 (by omega) w'
  clear hA hn l2
  go_enter Tryd.func7, Tryd.ntmps7
  go_wp2_with (first
    | (go_at_call 16; refine H.out.mono ?_; rintro e w1 ⟨va, vc, hs, rfl, H1⟩)
    | (go_at_call 17; refine (HS.out _ (H1.out.2.2.1.alloc _)).mono ?_; rintro e w2 ⟨g, gc, rfl, hg, hown, hA2⟩; have H2 := hid (And.intro hg (And.intro hown hA2)); clear hg hown hA2; rw [HL.out]))
  go_ret2
  have hA2 : Adds w w2 := (H1.out.2.2.1.alloc _).trans H2.out.2.2
  have hsz : w.heap.size ≤ w1.heap.size := H1.out.2.2.1.size
  have hown := H2.out.2.1
  rw [HL.out] at hown
  have hg := H2.out.1
  simp at hg
  refine ⟨g, gc, rfl, by omega, by rw [len_sealed, HL.out], ?_, row_base hown (fun j hj => by have h1 := (row_low hown hj).1; simp at h1; omega), hA2⟩
  obtain ⟨_, _, e, hle, _⟩ := own_cq hown
  cases e
  exact hle
set_option maxRecDepth 100000 in
set_option maxHeartbeats 1000000 in
theorem ropen9_long (a : Option Addr) (bs : List UInt8) (n cap : Nat) (no : Int) (w : World) (hn : bs.length = n) (h : n ≠ 256) : Calls Tryd.prog 9 #[.slice a n cap, .int .i64 no] w (PTold w (M.openP bs no) (M.openE bs no)) := by
  have HE := hid (show M.openP bs no = [] ∧ M.openE bs no = 21 by rw [M.openE, M.openP, if_pos (by omega), if_pos (by omega)]; exact ⟨rfl, rfl⟩)
  have h1 : ((n : Int) != 256) = true := by simp; omega
  clear h hn
  go_enter Tryd.func9, Tryd.ntmps9
  go_wp2_with fail
  go_ret2
  exact PTold.nil (Touch.refl _ _) HE.out.1 (by rw [HE.out.2]; rfl)
set_option maxRecDepth 100000 in
set_option maxHeartbeats 1000000 in
theorem ropen9_256 (a : Option Addr) (bs : List UInt8) (cap : Nat) (no : Int) (w : World) (hn : bs.length = 256) (hc : 256 ≤ cap) (hA : At w a bs) : Calls Tryd.prog 9 #[.slice a 256 cap, .int .i64 no] w (PTold w (M.openP bs no) (M.openE bs no)) := by
  have HO := hid (show Calls Tryd.prog 20 #[.slice a 256 cap] w (PROpen w bs) by have q := ropen_any a bs cap w (by omega) (by omega) hA; rw [hn] at q; exact q)
  have he := sealed_open hn
  by_cases hs : sealed (bs.take 252) = bs
  · rw [if_pos hs] at he
    unfold PROpen at HO
    rw [he] at HO
    obtain ⟨hE, hP⟩ := openE_in (no := no) hn hs
    cases hR : M.readP bs with
    | none =>
      rw [hR] at hE hP
      have HE := hid (And.intro hE hP)
      have H := hid (fun w1 (hA1 : Adds w w1) => rparse9_none hR a 256 cap w1 hn hc (hA.adds hA1))
      clear hA hn hs he hE hP hR
      go_enter Tryd.func9, Tryd.ntmps9
      go_wp2_with (first
        | (go_at_call 20; refine HO.out.mono ?_; rintro e w1 ⟨ay, cy, rfl, ho1, hA1⟩; have A1 := hid hA1; clear hA1 ho1)
        | (go_at_call 16; refine (H.out w1 A1.out).mono ?_; rintro e w2 ⟨va, vc, rfl, hA2⟩; have A2 := hid (A1.out.trans hA2); clear hA2))
      go_ret2
      exact PTold.nil (A2.out.alloc _) HE.out.2 (by rw [HE.out.1]; rfl)
    | some p =>
      rw [hR] at hE hP
      simp only at hE hP
      have H := hid (fun w1 (hA1 : Adds w w1) => rparse9_some hR a 256 cap w1 hn hc (hA.adds hA1))
      have hok := (M.read_ok hR).1
      have HK := hid hok
      by_cases hno : (p.no : Int) = no
      · subst hno
        rw [if_neg (by simp)] at hE hP
        have HE := hid (And.intro hE hP)
        clear hA hn hs he hE hP hR hok
        go_enter Tryd.func9, Tryd.ntmps9
        go_wp2_with (first
          | (go_at_call 20; refine HO.out.mono ?_; rintro e w1 ⟨ay, cy, rfl, ho1, hA1⟩; have A1 := hid hA1; clear hA1 ho1)
          | (go_at_call 16; refine (H.out w1 A1.out).mono ?_; rintro e w2 ⟨va, vc, hs, rfl, H2⟩; have A2 := hid (A1.out.trans H2.out.2.2.1))
          | (go_at_call 21; refine (rbytes_any p.no p.kind va hs p.cells.length vc H2.out.2.2.2 _ (H2.out.2.1.adds ((Touch.refl _ w2).alloc _)) HK.out.no (by rw [H2.out.1]; exact HK.out.room)).mono ?_; rintro e w3 ⟨ra, rc, rfl, H3⟩))
        go_ret2
        have hlen := M.len_pbytes HK.out.room
        have e3 := H3.out.1
        rw [H2.out.1] at e3
        obtain ⟨_, _, e4, hle, hnon, hq⟩ := own_cq e3
        cases e4
        exact ⟨ra, rc, by rw [HE.out.1, HE.out.2, hlen]; rfl, by rw [HE.out.2]; exact hq.at, by rw [HE.out.2, hlen]; exact hle, ⟨hnon, fun b o e => by subst e; have h1 := (row_low e3 (k := b) rfl).1; have h2 := A2.out.size; simp at h1; omega⟩, (A2.out.alloc _).trans H3.out.2⟩
      · have hnb : ((p.no : Int) != no) = true := by simpa using hno
        rw [if_pos hno] at hE hP
        have HE := hid (And.intro hE hP)
        clear hA hn hs he hE hP hR hok
        go_enter Tryd.func9, Tryd.ntmps9
        go_wp2_with (first
          | (go_at_call 20; refine HO.out.mono ?_; rintro e w1 ⟨ay, cy, rfl, ho1, hA1⟩; have A1 := hid hA1; clear hA1 ho1)
          | (go_at_call 16; refine (H.out w1 A1.out).mono ?_; rintro e w2 ⟨va, vc, hs, rfl, H2⟩; have A2 := hid (A1.out.trans H2.out.2.2.1)))
        go_ret2
        exact PTold.nil (A2.out.alloc _) HE.out.2 (by rw [HE.out.1]; rfl)
  · rw [if_neg hs] at he
    unfold PROpen at HO
    rw [he] at HO
    have HE := hid (openE_bad (no := no) hn hs)
    clear hA hn hs he
    go_enter Tryd.func9, Tryd.ntmps9
    go_wp2_with (first
      | (go_at_call 20; refine HO.out.mono ?_; rintro e w1 ⟨ay, cy, rfl, ho1, hA1⟩; have A1 := hid hA1; clear hA1 ho1))
    go_ret2
    exact PTold.nil A1.out HE.out.2 (by rw [HE.out.1]; rfl)
set_option maxRecDepth 100000 in
theorem ropen9_any (a : Option Addr) (bs : List UInt8) (n cap : Nat) (no : Int) (w : World) (hn : bs.length = n) (hc : n ≤ cap) (hA : At w a bs) : Calls Tryd.prog 9 #[.slice a n cap, .int .i64 no] w (PTold w (M.openP bs no) (M.openE bs no)) := by
  by_cases h : n = 256
  · subst h; exact ropen9_256 a bs cap no w hn hc hA
  · exact ropen9_long a bs n cap no w hn h
end Go.Proofs.YtidkmamjhpckgaaDoor

namespace Go.Proofs.YtidkmamjhpckgaaDoor
open Go.RowKit

/-- What Seal tells: bytes and why not. -/
def PSl (w : World) (cs : List UInt8) (sl se : Nat) (e : Ending) (w' : World) : Prop := ∃ a cap, e = .returned (.tuple #[.slice a sl cap, .int .i64 (se : Int)]) ∧ Hid (At w' a cs ∧ Adds w w')
set_option maxRecDepth 100000 in
theorem PSealed.sl {w w' : World} {cs : List UInt8} {e : Ending} (h : PSealed w cs e w') : PSl w cs 256 0 e w' := by
  obtain ⟨g, cap, he, H⟩ := h
  exact ⟨_, cap, he, row_at H.out.2.2.2.1, H.out.2.2.2.2⟩
set_option maxRecDepth 100000 in
theorem seals9 (a : Option Addr) (bs : List UInt8) (n cap : Nat) (w : World) (hn : bs.length = n) (hc : n ≤ cap) (hA : At w a bs) (sl se : Nat) (hsl : (M.sealP bs).length = sl) (hse : M.sealE bs = se) : (Tab w → Calls Tryd.prog 6 #[.slice a n cap] w (PSl w (M.sealP bs) sl se)) ∧ Calls Tryd.prog 7 #[.slice a n cap] w (PSl w (M.sealP bs) sl se) := by
  cases hR : M.readP bs with
  | none =>
    have e1 : M.sealP bs = [] := by rw [M.sealP, hR]
    have e2 : M.sealE bs = 22 := by rw [M.sealE, hR]
    rw [e1] at hsl ⊢
    rw [e2] at hse
    subst hsl hse
    refine ⟨fun _ => (gseal_none hR a n cap w hn hc hA).mono ?_, (rseal9_none hR a n cap w hn hc hA).mono ?_⟩
    · rintro e w' ⟨rfl, hA1⟩
      exact ⟨none, 0, rfl, At.nil _ _, hA1⟩
    · rintro e w' ⟨rfl, hA1⟩
      exact ⟨none, 0, rfl, At.nil _ _, hA1⟩
  | some p =>
    have l0 : bs.length = 256 := (M.read_ok hR).2.1
    have e1 : M.sealP bs = sealed (bs.take 252) := by rw [M.sealP, hR]
    have e2 : M.sealE bs = 0 := by rw [M.sealE, hR]
    have l1 : (sealed (bs.take 252)).length = 256 := by rw [len_sealed, List.length_take, l0]; rfl
    rw [e1] at hsl ⊢
    rw [e2] at hse
    rw [l1] at hsl
    rw [l0] at hn
    subst hsl hse hn
    exact ⟨fun hT => (gseal_some hR a cap w l0 hc hA hT).mono (fun _ _ q => q.sl), (rseal9_some hR a cap w l0 hc hA).mono (fun _ _ q => q.sl)⟩
def PT4 (w : World) (cs : List UInt8) (rl re : Nat) (e : Ending) (w' : World) : Prop := ∃ ra rc, e = .returned (.tuple #[.slice ra rl rc, .int .i64 (re : Int)]) ∧ Hid (At w' ra cs ∧ Adds w w')
set_option maxRecDepth 100000 in
theorem PTold.t4 {w w' : World} {cs : List UInt8} {er rl : Nat} {e : Ending} (hl : cs.length = rl) (h : PTold w cs er e w') : PT4 w cs rl er e w' := by
  obtain ⟨a, cap, he, H⟩ := h
  subst hl
  exact ⟨a, cap, he, H.out.1, H.out.2.2.2⟩
set_option maxRecDepth 100000 in
theorem conv_o (w : World) (a : Option Addr) (bs : List UInt8) (l cap : Nat) (h : At w a bs) (hl : bs.length = l) : (convert 22 9 (.slice a l cap)).run Tryd.prog w = .ok (.string ⟨bs.toArray⟩) w := by
  subst hl
  exact conv_at w a bs cap h
theorem row_lit9 (w : World) : (w.alloc (.cells #[] 5)).ownsRow w.heap.size 5 1 (.slice (some ⟨w.heap.size, 0, none⟩) 0 0) 0 [] := World.ownsRow_lit (base := w.heap.size) (e := 5) (size := 1) w #[] 0 (Nat.le_refl _) (by decide) rfl
set_option maxRecDepth 100000 in
set_option maxHeartbeats 3000000 in
theorem opens9 (a : Option Addr) (bs : List UInt8) (n cap : Nat) (no : Int) (w : World) (hT : Tab w) (hn : bs.length = n) (hc : n ≤ cap) (hcap : a = none → cap = 0) (hA : At w a bs) :
    Calls Tryd.prog 3 #[.slice a n cap, .int .i64 no] w (Adding (.bool true) w) := by
  by_cases h1 : 400 < n
  · have h1b : decide ((400 : Int) < (n : Int)) = true := by simp; omega
    clear h1 hA hT
    go_enter Tryd.func3, Tryd.ntmps3
    go_wp2_with fail
    go_ret
    exact ⟨rfl, Touch.refl _ _⟩
  · have h1b : decide ((400 : Int) < (n : Int)) = false := by simp; omega
    have hn4 : n ≤ 400 := by omega
    obtain ⟨SP, hSP⟩ : ∃ SP, M.sealP bs = SP := ⟨_, rfl⟩
    obtain ⟨sl, hsl⟩ : ∃ sl, SP.length = sl := ⟨_, rfl⟩
    obtain ⟨se, hse⟩ : ∃ se, M.sealE bs = se := ⟨_, rfl⟩
    obtain ⟨OP, hOP⟩ : ∃ OP, M.openP bs no = OP := ⟨_, rfl⟩
    obtain ⟨ol, hol⟩ : ∃ ol, OP.length = ol := ⟨_, rfl⟩
    obtain ⟨oe, hoe⟩ : ∃ oe, M.openE bs no = oe := ⟨_, rfl⟩
    have hsl4 : sl ≤ 256 := by
      rw [← hsl, ← hSP, M.sealP]
      cases hR : M.readP bs with
      | none => exact Nat.zero_le _
      | some p => show (sealed (bs.take 252)).length ≤ 256; rw [len_sealed, List.length_take]; omega
    have HA := hid hA
    have HL := hid (And.intro hn hcap)
    have HSl := hid (And.intro hsl hol)
    have HGS := hid (fun (qa : Option Addr) (qc : Nat) (w1 : World) (hw : Adds w w1) (hq : At w1 qa bs) (hqc : n ≤ qc) => show Calls Tryd.prog 6 #[.slice qa n qc] w1 (PSl w1 SP sl se) by
      have q := (seals9 qa bs n qc w1 hn hqc hq sl se (by rw [hSP]; exact hsl) hse).1 (hT.adds hw)
      rw [hSP] at q; exact q)
    have HRS := hid (fun (w1 : World) (hw : Adds w w1) => show Calls Tryd.prog 7 #[.slice a n cap] w1 (PSl w1 SP sl se) by
      have q := (seals9 a bs n cap w1 hn hc (hA.adds hw) sl se (by rw [hSP]; exact hsl) hse).2
      rw [hSP] at q; exact q)
    have HGO := hid (fun (qa : Option Addr) (qc : Nat) (w1 : World) (hw : Adds w w1) (hq : At w1 qa bs) (hqc : n ≤ qc) => show Calls Tryd.prog 8 #[.slice qa n qc, .int .i64 no] w1 (PT4 w1 OP ol oe) by
      have q := gopen_any qa bs n qc no w1 hn hqc hq (hT.adds hw)
      rw [hOP, hoe] at q
      exact q.mono (fun _ _ t => t.t4 hol))
    have HRO := hid (fun (w1 : World) (hw : Adds w w1) => show Calls Tryd.prog 9 #[.slice a n cap, .int .i64 no] w1 (PT4 w1 OP ol oe) by
      have q := ropen9_any a bs n cap no w1 hn hc (hA.adds hw)
      rw [hOP, hoe] at q
      exact q.mono (fun _ _ t => t.t4 hol))
    clear hA hT hn hcap hSP hsl hse hOP hol hoe h1
    go_enter Tryd.func3, Tryd.ntmps3
    go_upto_region 8 with (first
      | (go_at_call 6; refine (HGS.out qa qc w1 A1.out HQA.out hqc).mono ?_; rintro e w2 ⟨xa, xc, rfl, H2⟩; have A2 := hid (A1.out.trans H2.out.2))
      | (go_at_call 7; refine (HRS.out w2 A2.out).mono ?_; rintro e w3 ⟨ya, yc, rfl, H3⟩; have A3 := hid (A2.out.trans H3.out.2))
      | (go_at_call 8; refine (HGO.out qa qc w3 A3.out (HQA.out.adds (H2.out.2.trans H3.out.2)) hqc).mono ?_; rintro e w4 ⟨ua, uc, rfl, H4⟩; have A4 := hid (A3.out.trans H4.out.2))
      | (go_at_call 9; refine (HRO.out w4 A4.out).mono ?_; rintro e w5 ⟨va, vc, rfl, H5⟩; have A5 := hid (A4.out.trans H5.out.2))
      | (at_builtin; refine append_m rfl _ _ rfl w.heap.size (.slice (some ⟨w.heap.size, 0, none⟩) 0 0) 0 [] rfl (row_lit9 w) a bs n cap HL.out.1 rfl HL.out.2 (HA.out.adds ((Touch.refl _ w).alloc _)) (by omega) ((Touch.refl (fun _ => False) w).alloc _).size ?_
         intro v1 w1 hv1 hg1
         rw [Nat.zero_add] at hv1
         obtain ⟨qa, qc, e1, hqc, hqn, hqq⟩ := own_cq hv1
         subst e1
         have A1 := hid (show Adds w w1 from Touch.grown ((Touch.refl _ w).alloc _) hg1 (fun k hk hlt => by simp [Value.ownBlock] at hk; omega))
         have HQA := hid (show At w1 qa bs by have q := hqq; simp only [List.nil_append] at q; exact q.at)
         clear hv1 hg1 hqn hqq))
    have HX := hid (show At w5 xa SP from ((H2.out.1.adds H3.out.2).adds H4.out.2).adds H5.out.2)
    have HY := hid (show At w5 ya SP from (H3.out.1.adds H4.out.2).adds H5.out.2)
    have HU := hid (show At w5 ua OP from H4.out.1.adds H5.out.2)
    have HV := hid (show At w5 va OP from H5.out.1)
    have HQ := hid (show At w5 qa bs from HQA.out.adds (((H2.out.2.trans H3.out.2).trans H4.out.2).trans H5.out.2))
    have HP := hid (show At w5 a bs from HA.out.adds A5.out)
    clear H2 H3 H4 H5 A1 A2 A3 A4 HGS HRS HGO HRO HQA
    go_wp2_with fail
    go_loopw [45] (fun iv wz => ∃ k : Nat, k ≤ sl ∧ iv = .int .i64 (k : Int) ∧ Hid (Adds w5 wz)) (fun iv _ => sl - (intOf iv).toNat)
    case atStart => exact ⟨0, Nat.zero_le _, rfl, Touch.refl _ _⟩
    case round =>
      obtain ⟨k, hk, rfl, HI⟩ := hrel
      by_cases hlt : k < sl
      · obtain ⟨c, hcc⟩ : ∃ c, SP[k]? = some c := ⟨SP[k]'(by rw [HSl.out.1]; exact hlt), List.getElem?_eq_getElem _⟩
        obtain ⟨b1, o1, e1, c1⟩ := (HX.out.adds HI.out) k c hcc
        obtain ⟨b2, o2, e2, c2⟩ := (HY.out.adds HI.out) k c hcc
        subst e1 e2
        have d1 : wr.drew.cell? ⟨b1, o1 + k, none⟩ = some (.int .u8 (c.toNat : Int)) := c1
        have d2 : wr.drew.cell? ⟨b2, o2 + k, none⟩ = some (.int .u8 (c.toNat : Int)) := c2
        have hkb : decide ((k : Int) < (sl : Int)) = true := by simp; omega
        clear hcc
        go_upto_region 11 with fail
        go_quiet (fail)
        go_wp2_with fail
        go_roundw
        case rel => exact ⟨k + 1, by omega, by go_num, hid (HI.out.trans (adds_drewN wr _))⟩
        case measure => simp [intOf]; omega
      · obtain rfl : sl = k := by omega
        have v1 := conv_o wr ua OP ol uc (HU.out.adds HI.out) HSl.out.2
        have v2 := conv_o wr va OP ol vc (HV.out.adds HI.out) HSl.out.2
        have v3 := conv_o wr qa bs n qc (HQ.out.adds HI.out) HL.out.1
        have v4 := conv_o wr a bs n cap (HP.out.adds HI.out) HL.out.1
        have HWr := hid (A5.out.trans HI.out)
        go_wp2_with (go_at_call 10; refine (works9 wr).mono ?_; rintro e w13 ⟨rfl, hA13⟩; have A13 := hid (HWr.out.trans hA13); clear hA13)
        go_ret
        exact ⟨rfl, A13.out⟩
end Go.Proofs.YtidkmamjhpckgaaDoor
