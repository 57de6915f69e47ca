/- The reference's Parse, Seal and Open of a page. -/
import Derived.Test.YtjlennpoaefllaaGreatDoorQ11
import Derived.Test.YtjlennpoaefllaaGreatDoorQ29
import Derived.BigQuiet
namespace Go.Proofs.YtjlennpoaefllaaGreatDoor
open Go.RowKit

theorem rparse9 (a : Option Addr) (bs : List UInt8) (n cap : Nat) (w : World) (hn : bs.length = n) (hc : n ≤ cap) (hA : At w a bs) : Calls Tryz.prog 95 #[.slice a n cap] w (PParse w bs) := by
  by_cases h : n = 256
  · subst h
    obtain ⟨b, o, rfl, _⟩ := hA 0 bs[0] (List.getElem?_eq_getElem (by omega))
    by_cases h2 : 127 < (bs.getD 0 0).toNat ∨ M.pKd bs = 0
    · exact rparse_head b o bs cap w hn hA h2
    · exact rparse_256 b o bs cap w hn hc hA (fun c => h2 (.inl c)) (fun c => h2 (.inr c))
  · exact rparse_long a bs n cap w hn h
theorem rparse9_none {bs : List UInt8} (hR : M.readP bs = none) (a : Option Addr) (n cap : Nat) (w : World) (hn : bs.length = n) (hc : n ≤ cap) (hA : At w a bs) : Calls Tryz.prog 95 #[.slice a n cap] w (fun e w' => ∃ va vc, e = .returned (.tuple #[.agg #[.int .i64 0, .int .u8 0, .slice va 0 vc], .bool false]) ∧ Adds w w') := by
  refine (rparse9 a bs n cap w hn hc hA).mono ?_
  rintro e w' ⟨va, vc, hs, rfl, H⟩
  obtain ⟨h1, h2, h3, _⟩ := M.none_all hR
  have h4 := H.out.1
  rw [h3] at h4
  obtain rfl : hs = [] := List.map_eq_nil_iff.1 h4
  exact ⟨va, vc, by rw [h1, h2, hR]; rfl, H.out.2.2.1⟩
theorem rparse9_some {bs : List UInt8} {p : M.Pg} (hR : M.readP bs = some p) (a : Option Addr) (n cap : Nat) (w : World) (hn : bs.length = n) (hc : n ≤ cap) (hA : At w a bs) : Calls Tryz.prog 95 #[.slice a n cap] w (fun e w' => ∃ va vc, ∃ hs : List Part, e = .returned (.tuple #[.agg #[.int .i64 (p.no : Int), .int .u8 (p.kind.toNat : Int), .slice va p.cells.length vc], .bool true]) ∧ Hid (hs.map (·.bs) = p.cells ∧ GQ w' (fun k => w.heap.size ≤ k) ⟨va, vc, hs⟩ ∧ Adds w w' ∧ hs.length = p.cells.length)) := by
  refine (rparse9 a bs n cap w hn hc hA).mono ?_
  rintro e w' ⟨va, vc, hs, rfl, H⟩
  obtain ⟨h1, h2, h3, _⟩ := M.some_all hR
  have h4 := H.out.1
  rw [h3] at h4
  have h5 : hs.length = p.cells.length := by rw [← h4, List.length_map]
  exact ⟨va, vc, hs, by rw [h1, h2, hR, h5]; rfl, h4, H.out.2.1, H.out.2.2.1, h5⟩
set_option maxRecDepth 100000 in
set_option maxHeartbeats 1000000 in
theorem rseal9_some {bs : List UInt8} {p : M.Pg} (hR : M.readP bs = some p) (a : Option Addr) (cap : Nat) (w : World) (hn : bs.length = 256) (hc : 256 ≤ cap) (hA : At w a bs) : Calls Tryz.prog 83 #[.slice a 256 cap] w (PSealed w (sealed (bs.take 252))) := by
  have H := hid (rparse9_some hR a 256 cap w hn hc hA)
  obtain ⟨b, o, rfl⟩ := hA.ad (by omega)
  have l2 : (bs.take 252).length = 252 := by rw [List.length_take]; omega
  have HS := hid (fun w1 (hA1 : Adds w w1) => show Calls Tryz.prog 125 #[.slice (some ⟨b, o, none⟩) 252 cap] w1 (PSeal w1 (bs.take 252)) by
    have q := rseal_any (some ⟨b, o, none⟩) (bs.take 252) cap w1 (by omega) (fun e => by cases e) ((hA.pre 252).adds hA1)
    rw [l2] at q
    exact q)
  have HL := hid l2
  have hs1 : ∀ w', (Instr.sliceAt 43 (.slice (some ⟨b, o, none⟩) 256 cap) none (some (.int .i64 252)) none).run Tryz.prog w' = .ok (.slice (some ⟨b, o, none⟩) 252 cap) w' := fun w' => run_pre (some ⟨b, o, none⟩) 256 cap 252 (by omega) w'
  clear hA hn l2
  go_enter Tryz.func83, Tryz.ntmps83
  go_wp2_with (first
    | (go_at_call 95; refine H.out.mono ?_; rintro e w1 ⟨va, vc, hs, rfl, H1⟩)
    | (go_at_call 125; refine (HS.out _ (H1.out.2.2.1.alloc _)).mono ?_; rintro e w2 ⟨g, gc, rfl, hg, hown, hA2⟩; have H2 := hid (And.intro hg (And.intro hown hA2)); clear hg hown hA2; rw [HL.out]))
  go_ret2
  have hA2 : Adds w w2 := (H1.out.2.2.1.alloc _).trans H2.out.2.2
  have hsz : w.heap.size ≤ w1.heap.size := H1.out.2.2.1.size
  have hown := H2.out.2.1
  rw [HL.out] at hown
  have hg := H2.out.1
  simp at hg
  refine ⟨g, gc, rfl, by omega, by rw [len_sealed, HL.out], ?_, row_base hown (fun j hj => by have h1 := (row_low hown hj).1; simp at h1; omega), hA2⟩
  obtain ⟨_, _, e, hle, _⟩ := own_cq hown
  cases e
  exact hle
set_option maxRecDepth 100000 in
set_option maxHeartbeats 1000000 in
theorem ropen9_long (a : Option Addr) (bs : List UInt8) (n cap : Nat) (no : Int) (w : World) (hn : bs.length = n) (h : n ≠ 256) : Calls Tryz.prog 134 #[.slice a n cap, .int .i64 no] w (PTold w (M.openP bs no) (M.openE bs no)) := by
  have HE := hid (show M.openP bs no = [] ∧ M.openE bs no = 21 by rw [M.openE, M.openP, if_pos (by omega), if_pos (by omega)]; exact ⟨rfl, rfl⟩)
  have h1 : ((n : Int) != 256) = true := by simp; omega
  clear h hn
  go_enter Tryz.func134, Tryz.ntmps134
  go_wp2_with fail
  go_ret2
  exact PTold.nil (Touch.refl _ _) HE.out.1 (by rw [HE.out.2]; rfl)
set_option maxRecDepth 100000 in
set_option maxHeartbeats 1000000 in
theorem ropen9_256 (a : Option Addr) (bs : List UInt8) (cap : Nat) (no : Int) (w : World) (hn : bs.length = 256) (hc : 256 ≤ cap) (hA : At w a bs) : Calls Tryz.prog 134 #[.slice a 256 cap, .int .i64 no] w (PTold w (M.openP bs no) (M.openE bs no)) := by
  have HO := hid (show Calls Tryz.prog 151 #[.slice a 256 cap] w (PROpen w bs) by have q := ropen_any a bs cap w (by omega) (by omega) hA; rw [hn] at q; exact q)
  have he := sealed_open hn
  by_cases hs : sealed (bs.take 252) = bs
  · rw [if_pos hs] at he
    unfold PROpen at HO
    rw [he] at HO
    obtain ⟨hE, hP⟩ := openE_in (no := no) hn hs
    cases hR : M.readP bs with
    | none =>
      rw [hR] at hE hP
      have HE := hid (And.intro hE hP)
      have H := hid (fun w1 (hA1 : Adds w w1) => rparse9_none hR a 256 cap w1 hn hc (hA.adds hA1))
      clear hA hn hs he hE hP hR
      go_enter Tryz.func134, Tryz.ntmps134
      go_wp2_with (first
        | (go_at_call 151; refine HO.out.mono ?_; rintro e w1 ⟨ay, cy, rfl, ho1, hA1⟩; have A1 := hid hA1; clear hA1 ho1)
        | (go_at_call 95; refine (H.out w1 A1.out).mono ?_; rintro e w2 ⟨va, vc, rfl, hA2⟩; have A2 := hid (A1.out.trans hA2); clear hA2))
      go_ret2
      exact PTold.nil (A2.out.alloc _) HE.out.2 (by rw [HE.out.1]; rfl)
    | some p =>
      rw [hR] at hE hP
      simp only at hE hP
      have H := hid (fun w1 (hA1 : Adds w w1) => rparse9_some hR a 256 cap w1 hn hc (hA.adds hA1))
      have hok := (M.read_ok hR).1
      have HK := hid hok
      by_cases hno : (p.no : Int) = no
      · subst hno
        rw [if_neg (by simp)] at hE hP
        have HE := hid (And.intro hE hP)
        clear hA hn hs he hE hP hR hok
        go_enter Tryz.func134, Tryz.ntmps134
        go_wp2_with (first
          | (go_at_call 151; refine HO.out.mono ?_; rintro e w1 ⟨ay, cy, rfl, ho1, hA1⟩; have A1 := hid hA1; clear hA1 ho1)
          | (go_at_call 95; refine (H.out w1 A1.out).mono ?_; rintro e w2 ⟨va, vc, hs, rfl, H2⟩; have A2 := hid (A1.out.trans H2.out.2.2.1))
          | (go_at_call 52; refine (rbytes_any p.no p.kind va hs p.cells.length vc H2.out.2.2.2 _ (H2.out.2.1.adds ((Touch.refl _ w2).alloc _)) HK.out.no (by rw [H2.out.1]; exact HK.out.room)).mono ?_; rintro e w3 ⟨ra, rc, rfl, H3⟩))
        go_ret2
        have hlen := M.len_pbytes HK.out.room
        have e3 := H3.out.1
        rw [H2.out.1] at e3
        obtain ⟨_, _, e4, hle, hnon, hq⟩ := own_cq e3
        cases e4
        exact ⟨ra, rc, by rw [HE.out.1, HE.out.2, hlen]; rfl, by rw [HE.out.2]; exact hq.at, by rw [HE.out.2, hlen]; exact hle, ⟨hnon, fun b o e => by subst e; have h1 := (row_low e3 (k := b) rfl).1; have h2 := A2.out.size; simp at h1; omega⟩, (A2.out.alloc _).trans H3.out.2⟩
      · have hnb : ((p.no : Int) != no) = true := by simpa using hno
        rw [if_pos hno] at hE hP
        have HE := hid (And.intro hE hP)
        clear hA hn hs he hE hP hR hok
        go_enter Tryz.func134, Tryz.ntmps134
        go_wp2_with (first
          | (go_at_call 151; refine HO.out.mono ?_; rintro e w1 ⟨ay, cy, rfl, ho1, hA1⟩; have A1 := hid hA1; clear hA1 ho1)
          | (go_at_call 95; refine (H.out w1 A1.out).mono ?_; rintro e w2 ⟨va, vc, hs, rfl, H2⟩; have A2 := hid (A1.out.trans H2.out.2.2.1)))
        go_ret2
        exact PTold.nil (A2.out.alloc _) HE.out.2 (by rw [HE.out.1]; rfl)
  · rw [if_neg hs] at he
    unfold PROpen at HO
    rw [he] at HO
    have HE := hid (openE_bad (no := no) hn hs)
    clear hA hn hs he
    go_enter Tryz.func134, Tryz.ntmps134
    go_wp2_with (first
      | (go_at_call 151; refine HO.out.mono ?_; rintro e w1 ⟨ay, cy, rfl, ho1, hA1⟩; have A1 := hid hA1; clear hA1 ho1))
    go_ret2
    exact PTold.nil A1.out HE.out.2 (by rw [HE.out.1]; rfl)
theorem ropen9_any (a : Option Addr) (bs : List UInt8) (n cap : Nat) (no : Int) (w : World) (hn : bs.length = n) (hc : n ≤ cap) (hA : At w a bs) : Calls Tryz.prog 134 #[.slice a n cap, .int .i64 no] w (PTold w (M.openP bs no) (M.openE bs no)) := by
  by_cases h : n = 256
  · subst h; exact ropen9_256 a bs cap no w hn hc hA
  · exact ropen9_long a bs n cap no w hn h
end Go.Proofs.YtjlennpoaefllaaGreatDoor
