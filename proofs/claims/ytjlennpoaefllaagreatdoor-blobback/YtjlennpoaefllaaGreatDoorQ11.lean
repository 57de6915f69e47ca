/- Pages that are sealed, and opened: page.Seal, page.Open. -/
import Derived.Test.YtjlennpoaefllaaGreatDoorQ07
import Derived.Test.YtjlennpoaefllaaGreatDoorQ10
namespace Go.Proofs.YtjlennpoaefllaaGreatDoor
open Go.RowKit

namespace M
def openE (bs : List UInt8) (no : Int) : Nat := if bs.length ≠ 256 then 21 else if sealed (bs.take 252) ≠ bs then 20 else match readP bs with
  | none => 22
  | some p => if (p.no : Int) ≠ no then 23 else 0
def openP (bs : List UInt8) (no : Int) : List UInt8 := if bs.length ≠ 256 then [] else if sealed (bs.take 252) ≠ bs then [] else match readP bs with
  | none => []
  | some p => if (p.no : Int) ≠ no then [] else pbytes p
end M
/-- Sealed bytes in a row of one's own. -/
def PSealed (w : World) (cs : List UInt8) (e : Ending) (w' : World) : Prop := ∃ g cap, e = .returned (.tuple #[.slice (some ⟨g, 0, none⟩) 256 cap, .int .i64 0]) ∧ Hid (w.heap.size ≤ g ∧ cs.length = 256 ∧ 256 ≤ cap ∧ w'.ownsRow w.heap.size 5 1 (.slice (some ⟨g, 0, none⟩) 256 cap) 256 (S cs) ∧ Adds w w')
set_option maxRecDepth 100000 in
set_option maxHeartbeats 1000000 in
theorem gseal_none {bs : List UInt8} (hR : M.readP bs = none) (a : Option Addr) (n cap : Nat) (w : World) (hn : bs.length = n) (hc : n ≤ cap) (hA : At w a bs) : Calls Tryz.prog 122 #[.slice a n cap] w (fun e w' => e = .returned (.tuple #[.slice none 0 0, .int .i64 22]) ∧ Adds w w') := by
  have H := hid (gread_none hR a n cap w hn hc hA)
  clear hA hn
  go_enter Tryz.func122, Tryz.ntmps122
  go_wp2_with (go_at_call 141; refine H.out.mono ?_; rintro e w1 ⟨va, vc, rfl, hA1⟩; have HA1 := hid hA1; clear hA1)
  go_ret2
  exact ⟨rfl, HA1.out.alloc _⟩
set_option maxRecDepth 100000 in
set_option maxHeartbeats 1000000 in
theorem gseal_some {bs : List UInt8} {p : M.Pg} (hR : M.readP bs = some p) (a : Option Addr) (cap : Nat) (w : World) (hn : bs.length = 256) (hc : 256 ≤ cap) (hA : At w a bs) (hT : Tab w) : Calls Tryz.prog 122 #[.slice a 256 cap] w (PSealed w (sealed (bs.take 252))) := by
  have H := hid (gread_some hR a 256 cap w hn hc hA)
  obtain ⟨b, o, rfl⟩ := hA.ad (by omega)
  have l2 : (bs.take 252).length = 252 := by rw [List.length_take]; omega
  have HS := hid (fun w1 (hA1 : Adds w w1) => show Calls Tryz.prog 142 #[.slice (some ⟨b, o, none⟩) 252 cap] w1 (PSeal w1 (bs.take 252)) by
    have q := seal_any (some ⟨b, o, none⟩) (bs.take 252) cap w1 (by omega) (fun e => by cases e) (hT.adds hA1) ((hA.pre 252).adds hA1)
    rw [l2] at q
    exact q)
  have HL := hid l2
  have hs1 : ∀ w', (Instr.sliceAt 43 (.slice (some ⟨b, o, none⟩) 256 cap) none (some (.int .i64 252)) none).run Tryz.prog w' = .ok (.slice (some ⟨b, o, none⟩) 252 cap) w' := fun w' => run_pre (some ⟨b, o, none⟩) 256 cap 252 (by omega) w'
  clear hA hn hT l2
  go_enter Tryz.func122, Tryz.ntmps122
  go_wp2_with (first
    | (go_at_call 141; refine H.out.mono ?_; rintro e w1 ⟨va, vc, hs, rfl, H1⟩)
    | (go_at_call 142; refine (HS.out _ (H1.out.2.2.1.alloc _)).mono ?_; rintro e w2 ⟨g, gc, rfl, hg, hown, hA2⟩; have H2 := hid (And.intro hg (And.intro hown hA2)); clear hg hown hA2; rw [HL.out]))
  go_ret2
  have hA2 : Adds w w2 := (H1.out.2.2.1.alloc _).trans H2.out.2.2
  have hsz : w.heap.size ≤ w1.heap.size := H1.out.2.2.1.size
  have hown := H2.out.2.1
  rw [HL.out] at hown
  have hg := H2.out.1
  simp at hg
  refine ⟨g, gc, rfl, by omega, by rw [len_sealed, HL.out], ?_, row_base hown (fun j hj => by have h1 := (row_low hown hj).1; simp at h1; omega), hA2⟩
  obtain ⟨_, _, e, hle, _⟩ := own_cq hown
  cases e
  exact hle
set_option maxRecDepth 100000 in
theorem sealed_open {bs : List UInt8} (hl : bs.length = 256) : openErr bs = (if sealed (bs.take 252) = bs then 0 else 20) := by
  rw [openErr, if_neg (by omega), hl]
set_option maxRecDepth 100000 in
/-- What Open tells of bytes of a sector. -/
theorem openE_bad {bs : List UInt8} {no : Int} (hl : bs.length = 256) (h : sealed (bs.take 252) ≠ bs) : M.openE bs no = 20 ∧ M.openP bs no = [] := by
  have h1 : ¬ bs.length ≠ 256 := by omega
  rw [M.openE, M.openP, if_neg h1, if_neg h1, if_pos h, if_pos h]; exact ⟨rfl, rfl⟩
set_option maxRecDepth 100000 in
theorem openE_in {bs : List UInt8} {no : Int} (hl : bs.length = 256) (h : sealed (bs.take 252) = bs) : M.openE bs no = (match M.readP bs with | none => 22 | some p => if (p.no : Int) ≠ no then 23 else 0) ∧ M.openP bs no = (match M.readP bs with | none => [] | some p => if (p.no : Int) ≠ no then [] else M.pbytes p) := by
  have h1 : ¬ bs.length ≠ 256 := by omega
  have h2 : ¬ sealed (bs.take 252) ≠ bs := fun c => c h
  rw [M.openE, M.openP, if_neg h1, if_neg h1, if_neg h2, if_neg h2]
  cases M.readP bs <;> exact ⟨rfl, rfl⟩
set_option maxRecDepth 100000 in
set_option maxHeartbeats 1000000 in
theorem gopen_long (a : Option Addr) (bs : List UInt8) (n cap : Nat) (no : Int) (w : World) (hn : bs.length = n) (h : n ≠ 256) : Calls Tryz.prog 127 #[.slice a n cap, .int .i64 no] w (PTold w (M.openP bs no) (M.openE bs no)) := by
  have HE := hid (show M.openP bs no = [] ∧ M.openE bs no = 21 by rw [M.openE, M.openP, if_pos (by omega), if_pos (by omega)]; exact ⟨rfl, rfl⟩)
  have h1 : ((n : Int) != 256) = true := by simp; omega
  clear h hn
  go_enter Tryz.func127, Tryz.ntmps127
  go_wp2_with fail
  go_ret2
  exact PTold.nil (Touch.refl _ _) HE.out.1 (by rw [HE.out.2]; rfl)
set_option maxRecDepth 100000 in
set_option maxHeartbeats 1000000 in
theorem gopen_256 (a : Option Addr) (bs : List UInt8) (cap : Nat) (no : Int) (w : World) (hn : bs.length = 256) (hc : 256 ≤ cap) (hA : At w a bs) (hT : Tab w) : Calls Tryz.prog 127 #[.slice a 256 cap, .int .i64 no] w (PTold w (M.openP bs no) (M.openE bs no)) := by
  have HO := hid (show Calls Tryz.prog 147 #[.slice a 256 cap] w (POpen w bs) by have q := open_any a bs cap w (by omega) (by omega) hT hA; rw [hn] at q; exact q)
  have he := sealed_open hn
  by_cases hs : sealed (bs.take 252) = bs
  · rw [if_pos hs] at he
    unfold POpen at HO
    rw [he] at HO
    obtain ⟨hE, hP⟩ := openE_in (no := no) hn hs
    cases hR : M.readP bs with
    | none =>
      rw [hR] at hE hP
      have HE := hid (And.intro hE hP)
      have H := hid (fun w1 (hA1 : Adds w w1) => gread_none hR a 256 cap w1 hn hc (hA.adds hA1))
      clear hA hn hT hs he hE hP hR
      go_enter Tryz.func127, Tryz.ntmps127
      go_wp2_with (first
        | (go_at_call 147; refine HO.out.mono ?_; rintro e w1 ⟨ay, cy, rfl, ho1, hA1⟩; have A1 := hid hA1; clear hA1 ho1)
        | (go_at_call 141; refine (H.out w1 A1.out).mono ?_; rintro e w2 ⟨va, vc, rfl, hA2⟩; have A2 := hid (A1.out.trans hA2); clear hA2))
      go_ret2
      exact PTold.nil (A2.out.alloc _) HE.out.2 (by rw [HE.out.1]; rfl)
    | some p =>
      rw [hR] at hE hP
      simp only at hE hP
      have H := hid (fun w1 (hA1 : Adds w w1) => gread_some hR a 256 cap w1 hn hc (hA.adds hA1))
      have hok := (M.read_ok hR).1
      have HK := hid hok
      by_cases hno : (p.no : Int) = no
      · subst hno
        rw [if_neg (by simp)] at hE hP
        have HE := hid (And.intro hE hP)
        clear hA hn hT hs he hE hP hR hok
        go_enter Tryz.func127, Tryz.ntmps127
        go_wp2_with (first
          | (go_at_call 147; refine HO.out.mono ?_; rintro e w1 ⟨ay, cy, rfl, ho1, hA1⟩; have A1 := hid hA1; clear hA1 ho1)
          | (go_at_call 141; refine (H.out w1 A1.out).mono ?_; rintro e w2 ⟨va, vc, hs, rfl, H2⟩; have A2 := hid (A1.out.trans H2.out.2.2.1))
          | (go_at_call 121; refine (gpage_any p.no p.kind va hs p.cells.length vc H2.out.2.2.2.1 _ (H2.out.2.1.adds ((Touch.refl _ w2).alloc _)) HK.out.no (by rw [H2.out.1]; exact HK.out.room)).mono ?_; rintro e w3 ⟨g, rfl, H3⟩))
        go_ret2
        have hlen := M.len_pbytes HK.out.room
        have e3 := H3.out.2.1
        rw [H2.out.1] at e3
        exact ⟨some ⟨g, 0, none⟩, 256, by rw [HE.out.1, HE.out.2, hlen]; rfl, by rw [HE.out.2]; exact e3.at, by rw [HE.out.2, hlen]; exact Nat.le_refl _, ⟨fun e => (by cases e), fun b o e => by cases e; have h1 := H3.out.1; have h2 := A2.out.size; simp at h1; omega⟩, (A2.out.alloc _).trans H3.out.2.2⟩
      · have hnb : ((p.no : Int) != no) = true := by simpa using hno
        rw [if_pos hno] at hE hP
        have HE := hid (And.intro hE hP)
        clear hA hn hT hs he hE hP hR hok
        go_enter Tryz.func127, Tryz.ntmps127
        go_wp2_with (first
          | (go_at_call 147; refine HO.out.mono ?_; rintro e w1 ⟨ay, cy, rfl, ho1, hA1⟩; have A1 := hid hA1; clear hA1 ho1)
          | (go_at_call 141; refine (H.out w1 A1.out).mono ?_; rintro e w2 ⟨va, vc, hs, rfl, H2⟩; have A2 := hid (A1.out.trans H2.out.2.2.1)))
        go_ret2
        exact PTold.nil (A2.out.alloc _) HE.out.2 (by rw [HE.out.1]; rfl)
  · rw [if_neg hs] at he
    unfold POpen at HO
    rw [he] at HO
    have HE := hid (openE_bad (no := no) hn hs)
    clear hA hn hT hs he
    go_enter Tryz.func127, Tryz.ntmps127
    go_wp2_with (first
      | (go_at_call 147; refine HO.out.mono ?_; rintro e w1 ⟨ay, cy, rfl, ho1, hA1⟩; have A1 := hid hA1; clear hA1 ho1))
    go_ret2
    exact PTold.nil A1.out HE.out.2 (by rw [HE.out.1]; rfl)
set_option maxRecDepth 100000 in
theorem gopen_any (a : Option Addr) (bs : List UInt8) (n cap : Nat) (no : Int) (w : World) (hn : bs.length = n) (hc : n ≤ cap) (hA : At w a bs) (hT : Tab w) : Calls Tryz.prog 127 #[.slice a n cap, .int .i64 no] w (PTold w (M.openP bs no) (M.openE bs no)) := by
  by_cases h : n = 256
  · subst h; exact gopen_256 a bs cap no w hn hc hA hT
  · exact gopen_long a bs n cap no w hn h
end Go.Proofs.YtjlennpoaefllaaGreatDoor
