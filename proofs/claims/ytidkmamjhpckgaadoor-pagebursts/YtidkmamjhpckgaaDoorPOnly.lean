/- PageOnly. -/
import Derived.Test.YtidkmamjhpckgaaDoorPSeal
import Derived.Test.YtidkmamjhpckgaaDoorPMade
namespace Go.Proofs.YtidkmamjhpckgaaDoor
open Go.RowKit

set_option maxRecDepth 100000 in
/-- A page that is sealed. -/
theorem sealed_page {p : M.Pg} (hp : p.Ok) : (sealed (M.pfirst p)).length = 256 ∧ (sealed (M.pfirst p)).take 252 = M.pfirst p ∧ M.readP (sealed (M.pfirst p)) = some p := by
  have l1 := M.len_pfirst hp.room
  have l2 : (sealed (M.pfirst p)).length = 256 := by rw [len_sealed, l1]
  have l3 : (sealed (M.pfirst p)).take 252 = M.pfirst p := by rw [sealed, List.take_left' l1]
  exact ⟨l2, l3, M.read_of hp l2 l3⟩
set_option maxRecDepth 100000 in
theorem open_page {p : M.Pg} (hp : p.Ok) (no : Int) : M.openE (sealed (M.pfirst p)) no = (if (p.no : Int) ≠ no then 23 else 0) ∧ M.openP (sealed (M.pfirst p)) no = (if (p.no : Int) ≠ no then [] else M.pbytes p) := by
  obtain ⟨h1, h2, h3⟩ := sealed_page hp
  have q := openE_in (bs := sealed (M.pfirst p)) (no := no) h1 (by rw [h2])
  rw [h3] at q
  exact q
def PNo9 (w : World) (z : Int) (e : Ending) (w' : World) : Prop := ∃ a cap, e = .returned (.tuple #[.slice a 0 cap, .int .i64 z]) ∧ Adds w w'
set_option maxRecDepth 100000 in
theorem PTold.no9 {w w' : World} {cs : List UInt8} {er : Nat} {e : Ending} {z : Int} (h : PTold w cs er e w') (h1 : cs = []) (h2 : (er : Int) = z) : PNo9 w z e w' := by
  obtain ⟨a, cap, he, H⟩ := h
  subst h1
  subst h2
  exact ⟨a, cap, he, H.out.2.2.2⟩
set_option maxRecDepth 100000 in
theorem pg_cells {p : M.Pg} (hp : p.Ok) {w : World} {a : Option Addr} {cap N : Nat} (h : Pag w a cap (M.pbytes p)) (hN : p.cells.length = N) : Calls Tryd.prog 13 #[.slice a 256 cap] w (fun e w' => ∃ ca cc, ∃ hs : List Part, e = .returned (.slice ca N cc) ∧ Hid (hs.map (·.bs) = p.cells ∧ GQ w' (fun k => w.heap.size ≤ k) ⟨ca, cc, hs⟩ ∧ Adds w w' ∧ N ≤ cc)) := by
  have q := gcells_any a _ 256 cap w h.2.1 h.2.2.1 h.1
  unfold PCells at q
  rw [M.cells_put hp, hN] at q
  exact q
/-- What the law's pages are. -/
structure Law (w : World) (a : Option Addr) (n cap : Nat) (p : M.Pg) : Prop where
  ok : p.Ok
  no : p.no = 9
  kind : p.kind = 3
  made : ∀ w1, Adds w w1 → Calls Tryd.prog 11 #[.slice a n cap] w1 (PMade w1 (M.pbytes p))
set_option maxRecDepth 100000 in
theorem law_of {Q : Nat → Prop} {a : Option Addr} {hs : List Part} {n cap : Nat} (hn : hs.length = n) {w : World} (h : GQ w Q ⟨a, cap, hs⟩) (hl : n ≤ 9223372036854775807) (hcp : ∀ x ∈ hs, x.bs.length ≤ x.cap) : ∃ p, Law w a n cap p := by
  obtain ⟨cs, hcs⟩ : ∃ cs, cs = M.madeN (hs.map (·.bs)) 100 := ⟨_, rfl⟩
  have hm := fun w1 (hA : Adds w w1) => made_any a hs n cap hn w1 (h.adds hA) hl hcp
  have ht := M.madeN_ok (hs.map (·.bs)) 100
  rw [← hcs] at hm ht
  exact ⟨M.made cs, ⟨M.made_ok ht, rfl, rfl, hm⟩⟩
set_option maxRecDepth 100000 in
set_option maxHeartbeats 2000000 in
theorem only9 {Q : Nat → Prop} (a : Option Addr) (hs : List Part) (n cap : Nat) (hn : hs.length = n) (no : Int) (w : World) (hT : Tab w) (h : GQ w Q ⟨a, cap, hs⟩) (hl : n ≤ 9223372036854775807) (hcp : ∀ x ∈ hs, x.bs.length ≤ x.cap) :
    Calls Tryd.prog 4 #[.slice a n cap, .int .i64 no] w (Adding (.bool true) w) := by
  obtain ⟨p, hp⟩ := law_of hn h hl hcp
  have HP := hid hp
  have HT := hid hT
  have HW := hid (works9 w)
  obtain ⟨N, hN⟩ : ∃ N, p.cells.length = N := ⟨_, rfl⟩
  have hN122 : N ≤ 122 := by rw [← hN]; exact hp.ok.count.1
  have HN := hid hN
  have HF := hid (fun w1 ca cc (ts : List Part) (hb : ts.map (·.bs) = p.cells) (hg : GQ w1 (fun _ => True) ⟨ca, cc, ts⟩) => show Calls Tryd.prog 12 #[.int .i64 9, .int .u8 3, .slice ca N cc] w1 (PPag w1 (M.pbytes p)) by
    have hlen : ts.length = N := by rw [← hN, ← hb, List.length_map]
    have q := gfill_any 9 3 ca ts N cc hlen w1 hg (fun x hx => by have := cell_len hp.ok (c := x.bs) (by rw [← hb]; exact List.mem_map_of_mem hx); omega) (by omega)
    have e1 := (M.fill_ok hp.ok).1
    have e2 := (M.fill_ok hp.ok).2
    rw [hp.no, hp.kind] at e1 e2
    exact q.mono (fun e w' t => t.pag (by rw [hb]; exact e1) (by rw [hb]; exact e2) (M.len_pbytes hp.ok.room)))
  have HS := hid (fun w1 pa pc (hA : Adds w w1) (hg : Pag w1 pa pc (M.pbytes p)) => show Calls Tryd.prog 6 #[.slice pa 256 pc] w1 (PSealed w1 (sealed (M.pfirst p))) by
    have q := gseal_some (M.read_pbytes hp.ok) pa pc w1 hg.2.1 hg.2.2.1 hg.1 (hT.adds hA)
    rw [M.take_pbytes hp.ok.room] at q
    exact q)
  have HO := hid (fun w1 g gc (hA : Adds w w1) (hat : At w1 (some ⟨g, 0, none⟩) (sealed (M.pfirst p))) (hc : 256 ≤ gc) => show Calls Tryd.prog 8 #[.slice (some ⟨g, 0, none⟩) 256 gc, .int .i64 9] w1 (PPag w1 (M.pbytes p)) by
    have q := gopen_any (some ⟨g, 0, none⟩) (sealed (M.pfirst p)) 256 gc 9 w1 (sealed_page hp.ok).1 hc hat (hT.adds hA)
    have e := open_page hp.ok 9
    rw [hp.no, if_neg (by decide), if_neg (by decide)] at e
    exact q.mono (fun e' w' t => t.pag e.2 e.1 (M.len_pbytes hp.ok.room)))
  obtain ⟨pb, hpb⟩ : ∃ pb, pb = M.pbytes p := ⟨_, rfl⟩
  have HPB := hid hpb
  by_cases h9 : no = 9
  · subst h9
    clear hT h hcp hN hp hpb
    go_enter Tryd.func4, Tryd.ntmps4
    go_wp2_with (first
      | (go_at_call 10; refine HW.out.mono ?_; rintro e w1 ⟨rfl, hA1⟩; have A1 := hid hA1; clear hA1)
      | (go_at_call 11; refine (HP.out.made w1 A1.out).mono ?_; rintro e w2 ⟨pa, pc, rfl, H2⟩; have A2 := hid (A1.out.trans H2.out.2))
      | (go_at_call 13; refine (pg_cells HP.out.ok H2.out.1 HN.out).mono ?_; rintro e w3 ⟨ca, cc, ts, rfl, H3⟩; have A3 := hid (A2.out.trans H3.out.2.2.1))
      | (go_at_call 12; refine (HF.out w3 ca cc ts H3.out.1 (H3.out.2.1.mono (fun _ _ _ => trivial))).mono ?_; rintro e w4 ⟨qa, qc, rfl, H4⟩; have A4 := hid (A3.out.trans H4.out.2); have G4 := hid ((H2.out.1.adds H3.out.2.2.1).adds H4.out.2))
      | (go_at_call 6; refine (HS.out w4 pa pc A4.out G4.out).mono ?_; rintro e w5 ⟨g, gc, rfl, H5⟩; have A5 := hid (A4.out.trans H5.out.2.2.2.2))
      | (go_at_call 8; refine (HO.out w6 g gc A6.out ((At.own H5.out.2.2.2.1).adds H6.out.2) H5.out.2.2.1).mono ?_; rintro e w7 ⟨ya, yc, rfl, H7⟩
         have A7 := hid (A6.out.trans H7.out.2)
         have v1 : (convert 22 9 (.slice qa 256 qc)).run Tryd.prog w7 = .ok (.string ⟨pb.toArray⟩) w7 := by (have q := conv_at w7 qa _ qc (((H4.out.1.1.adds H5.out.2.2.2.2).adds H6.out.2).adds H7.out.2); rw [H4.out.1.2.1, ← HPB.out] at q; exact q)
         have v2 : (convert 22 9 (.slice pa 256 pc)).run Tryd.prog w7 = .ok (.string ⟨pb.toArray⟩) w7 := by (have q := conv_at w7 pa _ pc (((G4.out.1.adds H5.out.2.2.2.2).adds H6.out.2).adds H7.out.2); rw [G4.out.2.1, ← HPB.out] at q; exact q)
         have v3 : (convert 22 9 (.slice xa 256 xc)).run Tryd.prog w7 = .ok (.string ⟨pb.toArray⟩) w7 := by (have q := conv_at w7 xa _ xc (H6.out.1.1.adds H7.out.2); rw [H6.out.1.2.1, ← HPB.out] at q; exact q))
      | (go_at_call 8; refine (HO.out w5 g gc A5.out (At.own H5.out.2.2.2.1) H5.out.2.2.1).mono ?_; rintro e w6 ⟨xa, xc, rfl, H6⟩; have A6 := hid (A5.out.trans H6.out.2)))
    go_ret
    exact ⟨rfl, A7.out⟩
  · have h9b : (no == 9) = false := by simpa using h9
    have HO2 := hid (fun w1 g gc (hA : Adds w w1) (hat : At w1 (some ⟨g, 0, none⟩) (sealed (M.pfirst p))) (hc : 256 ≤ gc) => show Calls Tryd.prog 8 #[.slice (some ⟨g, 0, none⟩) 256 gc, .int .i64 no] w1 (PNo9 w1 23) by
      have q := gopen_any (some ⟨g, 0, none⟩) (sealed (M.pfirst p)) 256 gc no w1 (sealed_page hp.ok).1 hc hat (hT.adds hA)
      have e := open_page hp.ok no
      have hne : ((9 : Nat) : Int) ≠ no := fun c => h9 (by rw [← c]; rfl)
      rw [hp.no, if_pos hne, if_pos hne] at e
      exact q.mono (fun e' w' t => t.no9 e.2 (by rw [e.1]; rfl)))
    clear hT h hcp hN hp hpb h9
    go_enter Tryd.func4, Tryd.ntmps4
    go_wp2_with (first
      | (go_at_call 10; refine HW.out.mono ?_; rintro e w1 ⟨rfl, hA1⟩; have A1 := hid hA1; clear hA1)
      | (go_at_call 11; refine (HP.out.made w1 A1.out).mono ?_; rintro e w2 ⟨pa, pc, rfl, H2⟩; have A2 := hid (A1.out.trans H2.out.2))
      | (go_at_call 13; refine (pg_cells HP.out.ok H2.out.1 HN.out).mono ?_; rintro e w3 ⟨ca, cc, ts, rfl, H3⟩; have A3 := hid (A2.out.trans H3.out.2.2.1))
      | (go_at_call 12; refine (HF.out w3 ca cc ts H3.out.1 (H3.out.2.1.mono (fun _ _ _ => trivial))).mono ?_; rintro e w4 ⟨qa, qc, rfl, H4⟩; have A4 := hid (A3.out.trans H4.out.2); have G4 := hid ((H2.out.1.adds H3.out.2.2.1).adds H4.out.2))
      | (go_at_call 6; refine (HS.out w4 pa pc A4.out G4.out).mono ?_; rintro e w5 ⟨g, gc, rfl, H5⟩; have A5 := hid (A4.out.trans H5.out.2.2.2.2))
      | (go_at_call 8; refine (HO2.out w6 g gc A6.out ((At.own H5.out.2.2.2.1).adds H6.out.2) H5.out.2.2.1).mono ?_; rintro e w7 ⟨ya, yc, rfl, hA7⟩
         have A7 := hid (A6.out.trans hA7)
         have v1 : (convert 22 9 (.slice qa 256 qc)).run Tryd.prog w7 = .ok (.string ⟨pb.toArray⟩) w7 := by (have q := conv_at w7 qa _ qc (((H4.out.1.1.adds H5.out.2.2.2.2).adds H6.out.2).adds hA7); rw [H4.out.1.2.1, ← HPB.out] at q; exact q)
         have v2 : (convert 22 9 (.slice pa 256 pc)).run Tryd.prog w7 = .ok (.string ⟨pb.toArray⟩) w7 := by (have q := conv_at w7 pa _ pc (((G4.out.1.adds H5.out.2.2.2.2).adds H6.out.2).adds hA7); rw [G4.out.2.1, ← HPB.out] at q; exact q)
         have v3 : (convert 22 9 (.slice xa 256 xc)).run Tryd.prog w7 = .ok (.string ⟨pb.toArray⟩) w7 := by (have q := conv_at w7 xa _ xc (H6.out.1.1.adds hA7); rw [H6.out.1.2.1, ← HPB.out] at q; exact q)
         clear hA7)
      | (go_at_call 8; refine (HO.out w5 g gc A5.out (At.own H5.out.2.2.2.1) H5.out.2.2.1).mono ?_; rintro e w6 ⟨xa, xc, rfl, H6⟩; have A6 := hid (A5.out.trans H6.out.2)))
    go_ret
    exact ⟨rfl, A7.out⟩
end Go.Proofs.YtidkmamjhpckgaaDoor
