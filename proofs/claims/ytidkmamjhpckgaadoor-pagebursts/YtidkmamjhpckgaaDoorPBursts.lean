/- PageBursts. -/
import Derived.Test.YtidkmamjhpckgaaDoorPOnly
namespace Go.Proofs.YtidkmamjhpckgaaDoor
open Go.RowKit

set_option maxRecDepth 100000 in
set_option maxHeartbeats 4000000 in
theorem bursts9 {Q : Nat → Prop} (a : Option Addr) (hs : List Part) (n cap : Nat) (hn : hs.length = n) (at_ : Int) (x : C.V) (w : World) (hT : Tab w) (h : GQ w Q ⟨a, cap, hs⟩) (hl : n ≤ 9223372036854775807) (hcp : ∀ x ∈ hs, x.bs.length ≤ x.cap) :
    Calls Tryd.prog 5 #[.slice a n cap, .int .i64 at_, .int .u32 (N x)] w (Adding (.bool true) w) := by
  obtain ⟨p, hp⟩ := law_of hn h hl hcp
  have HP := hid hp
  have HT := hid hT
  have HW := hid (works9 w)
  have HS := hid (fun w1 pa pc (hA : Adds w w1) (hg : Pag w1 pa pc (M.pbytes p)) => show Calls Tryd.prog 6 #[.slice pa 256 pc] w1 (PSealed w1 (sealed (M.pfirst p))) by
    have q := gseal_some (M.read_pbytes hp.ok) pa pc w1 hg.2.1 hg.2.2.1 hg.1 (hT.adds hA)
    rw [M.take_pbytes hp.ok.room] at q
    exact q)
  have HO := hid (fun w1 g gc (hA : Adds w w1) (hat : At w1 (some ⟨g, 0, none⟩) (sealed (M.pfirst p))) (hc : 256 ≤ gc) => show Calls Tryd.prog 8 #[.slice (some ⟨g, 0, none⟩) 256 gc, .int .i64 9] w1 (PPag w1 (M.pbytes p)) by
    have q := gopen_any (some ⟨g, 0, none⟩) (sealed (M.pfirst p)) 256 gc 9 w1 (sealed_page hp.ok).1 hc hat (hT.adds hA)
    have e := open_page hp.ok 9
    rw [hp.no, if_neg (by decide), if_neg (by decide)] at e
    exact q.mono (fun e' w' t => t.pag e.2 e.1 (M.len_pbytes hp.ok.room)))
  obtain ⟨bs, hbs⟩ : ∃ bs, bs = M.pfirst p := ⟨_, rfl⟩
  have hbl : bs.length = 252 := by rw [hbs]; exact M.len_pfirst hp.ok.room
  rw [← hbs] at HS HO
  obtain ⟨kk, hkk, e1, e2⟩ := Bts.rembits at_ 2048 (by omega)
  have e1' : (IntKind.u64.wrap at_).tmod 2048 = (kk : Int) := e1
  have e2' : IntKind.u64.wrap at_ % 2048 = (kk : Int) := e2
  have HL := hid hbl
  clear hT h hcp hp hbs e1 e2 hbl
  go_enter Tryd.func5, Tryd.ntmps5
  go_wp2_with (first
    | (go_at_call 10; refine HW.out.mono ?_; rintro e w1 ⟨rfl, hA1⟩; have A1 := hid hA1; clear hA1)
    | (go_at_call 11; refine (HP.out.made w1 A1.out).mono ?_; rintro e w2 ⟨pa, pc, rfl, H2⟩; have A2 := hid (A1.out.trans H2.out.2))
    | (go_at_call 6; refine (HS.out w2 pa pc A2.out H2.out.1).mono ?_; rintro e w3 ⟨g, gc, rfl, H3⟩))
  have HI0 := hid (show Bts.Inv w2 g bs x kk 0 false w3 from ⟨sealed bs, Burst.start _ x kk, RowB.of_own H3.out.2.2.2.1, H3.out.2.2.2.2, H3.out.1⟩)
  have hgc := H3.out.2.2.1
  clear HW HS e1' e2' H3 H2
  go_loopw [10, 11] (fun tv iv wr => ∃ (i : Nat) (t : Bool), i ≤ 32 ∧ tv = .bool t ∧ iv = .int .i64 (i : Int) ∧ Hid (Bts.Inv w2 g bs x kk i t wr)) (fun _ iv _ => 32 - (intOf iv).toNat)
  case atStart => exact ⟨0, false, by omega, rfl, rfl, HI0.out⟩
  case round =>
    obtain ⟨i, t, hi, rfl, rfl, HI⟩ := hrel
    by_cases hlt : i < 32 ∧ kk + i < 2048
    · obtain ⟨hi32, hki⟩ := hlt
      have h1 : N x / 2 ^ i = N (x >>> i) := N_shr x i
      have h2 := bit_and x i
      have hw : IntKind.u64.wrap (i : Int) = (i : Int) := by simp [IntKind.wrap, IntKind.bits, IntKind.signed]; omega
      cases hb : x.getLsbD i
      · rw [hb] at h2
        simp only [Bool.false_eq_true, if_false] at h2
        have HB := hid hb
        clear hb
        go_wp2
        go_roundw
        case rel =>
          obtain ⟨cs, q1, q2, q3, q4⟩ := HI.out
          exact ⟨i + 1, t, by omega, rfl, by go_num, cs, q1.skip HB.out, q2, q3, q4⟩
        case measure => simp [intOf]; omega
      · rw [hb] at h2
        simp only [if_true] at h2
        have HB := hid hb
        clear hb
        obtain ⟨cs, q1, q2, q3, q4⟩ := HI.out
        have hcl : cs.length = 256 := by rw [q1.len, HL.out]
        obtain ⟨q, hq⟩ : ∃ q, q = (kk + i) / 8 := ⟨_, rfl⟩
        obtain ⟨r, hr⟩ : ∃ r, r = (kk + i) % 8 := ⟨_, rfl⟩
        have hql : q < 256 := by omega
        obtain ⟨c, hc⟩ : ∃ c, cs[q]? = some c := ⟨_, List.getElem?_eq_getElem (by rw [hcl]; exact hql)⟩
        have hcell := (q2.cell hc).1
        have hfr := (q2.cell hc).2
        have t1 : ((kk : Int) + (i : Int)).tdiv 8 = (q : Int) := by rw [Int.tdiv_eq_ediv_of_nonneg (by omega)]; omega
        have t2 : ((kk : Int) + (i : Int)) / 8 = (q : Int) := by omega
        have t3 : ((kk : Int) + (i : Int)).tmod 8 = (r : Int) := by rw [Int.tmod_eq_emod_of_nonneg (by omega)]; omega
        have t4 : ((kk : Int) + (i : Int)) % 8 = (r : Int) := by omega
        have hr8 : r < 8 := by omega
        have hwr : IntKind.u64.wrap (r : Int) = (r : Int) := by simp [IntKind.wrap, IntKind.bits, IntKind.signed]; omega
        have p1 := bit_pow r hr8
        have hF := flip_set cs (kk + i) c (by rw [← hq]; exact hc)
        rw [← hq, ← hr] at hF
        have HF := hid hF
        clear hF
        generalize UInt8.ofNat (2 ^ r) = d at p1 HF
        have p2 := wrap_byte d
        have p3 : (d.toNat : Int) % 256 = (d.toNat : Int) := by have := d.toNat_lt; omega
        have p4 := bits_xor8 c d
        have HN := hid (And.intro q1 (And.intro q2 (And.intro q3 (And.intro q4 hcl))))
        clear HI q1 q2 q3 q4 hq hr hc hcl
        go_wp2
        go_roundw
        case rel =>
          obtain ⟨q1, q2, q3, q4, q5⟩ := HN.out
          refine ⟨i + 1, true, by omega, rfl, by go_num, flip cs (kk + i), q1.turn hi32 HB.out (by rw [HL.out]; exact hki), ?_, q3.setCell (fun hh => absurd q4 (Nat.not_le.2 hh)) _, q4⟩
          rw [HF.out]
          exact q2.set q (c ^^^ d) (by rw [q5]; exact hql)
        case measure => simp [intOf]; omega
    · obtain ⟨cs, q1, q2, q3, q4⟩ := HI.out
      have hcl : cs.length = 256 := by rw [q1.len, HL.out]
      have HADD := hid (A2.out.trans q3)
      cases t
      · obtain rfl := q1.same rfl
        have HOP := hid (HO.out wr g gc HADD.out q2.at hgc)
        clear HI q1 q2 q3 q4 hcl
        by_cases hl : i < 32
        · have hki : ¬ kk + i < 2048 := fun hh => hlt ⟨hl, hh⟩
          clear hlt
          go_wp2_with (go_at_call 8; refine HOP.out.mono ?_; rintro e w4 ⟨ya, yc, rfl, H4⟩)
          go_ret
          exact ⟨rfl, HADD.out.trans H4.out.2⟩
        · clear hlt
          go_wp2_with (go_at_call 8; refine HOP.out.mono ?_; rintro e w4 ⟨ya, yc, rfl, H4⟩)
          go_ret
          exact ⟨rfl, HADD.out.trans H4.out.2⟩
      · have hne : sealed (cs.take 252) ≠ cs := by have q := q1.found; rw [hcl] at q; exact q
        have HOP := hid ((gopen_any (some ⟨g, 0, none⟩) cs 256 gc 9 wr hcl hgc q2.at (HT.out.adds HADD.out)).mono (fun e w' t => t.no9 (openE_bad (no := 9) hcl hne).2 (z := 20) (by rw [(openE_bad (no := 9) hcl hne).1]; rfl)))
        clear HI q1 q2 q3 q4 hcl hne
        by_cases hl : i < 32
        · have hki : ¬ kk + i < 2048 := fun hh => hlt ⟨hl, hh⟩
          clear hlt
          go_wp2_with (go_at_call 8; refine HOP.out.mono ?_; rintro e w4 ⟨ya, yc, rfl, hA4⟩; have A4 := hid (HADD.out.trans hA4); clear hA4)
          go_ret
          exact ⟨rfl, A4.out⟩
        · clear hlt
          go_wp2_with (go_at_call 8; refine HOP.out.mono ?_; rintro e w4 ⟨ya, yc, rfl, hA4⟩; have A4 := hid (HADD.out.trans hA4); clear hA4)
          go_ret
          exact ⟨rfl, A4.out⟩
end Go.Proofs.YtidkmamjhpckgaaDoor
