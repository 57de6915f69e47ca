/- Texts put together: Bursts, PSeal. -/
import Derived.Test.YtokbiekdompaoaaDoorQ13
import Derived.Test.YtokbiekdompaoaaDoorQ14
import Derived.Test.YtokbiekdompaoaaDoorQ10
/- The walk of CrcBursts. -/
namespace Go.Proofs.YtokbiekdompaoaaDoor
open Go.RowKit

/-- A row that begins with these bytes. -/
def RowB (w : World) (g : Nat) (cs : List UInt8) : Prop := ∃ cur, w.heap[g]? = some (.cells cur 5 (0, 0)) ∧ ∀ (j : Nat) (c : UInt8), cs[j]? = some c → cur[j]? = some (.int .u8 (c.toNat : Int))
set_option maxRecDepth 100000 in
theorem RowB.of_own {w : World} {base g n cap : Nat} {bs : List UInt8} (h : w.ownsRow base 5 1 (.slice (some ⟨g, 0, none⟩) n cap) n (S bs)) : RowB w g bs := by
  rcases h.2 with ⟨e, _⟩ | ⟨g', cap', cur, e, _, hg, _, _, _, ht⟩
  · cases e
  · obtain ⟨rfl, _⟩ : g = g' ∧ cap = cap' := by simpa using e
    refine ⟨cur, hg, fun j c hj => ?_⟩
    have h2 : (S bs)[j]? = some (.int .u8 (c.toNat : Int)) := by rw [S_get, hj]; rfl
    rw [← ht, List.getElem?_take] at h2
    split at h2
    · rw [← Array.getElem?_toList]; exact h2
    · cases h2
set_option maxRecDepth 100000 in
theorem RowB.at {w : World} {g : Nat} {cs : List UInt8} (h : RowB w g cs) : At w (some ⟨g, 0, none⟩) cs := by
  obtain ⟨cur, hc, hz⟩ := h
  exact fun j c hj => ⟨g, 0, rfl, by rw [cell_of_row w g _ cur 5 _ hc, Nat.zero_add]; exact hz j c hj⟩
set_option maxRecDepth 100000 in
theorem RowB.cell {w : World} {g : Nat} {cs : List UInt8} (h : RowB w g cs) {q : Nat} {c : UInt8} (hq : cs[q]? = some c) : w.cell? ⟨g, q, none⟩ = some (.int .u8 (c.toNat : Int)) ∧ w.frozen? ⟨g, q, none⟩ = false := by
  obtain ⟨cur, hc, hz⟩ := h
  exact ⟨by rw [cell_of_row w g q cur 5 _ hc]; exact hz q c hq, frozen_of_row w g q cur 5 hc⟩
set_option maxRecDepth 100000 in
theorem RowB.set {w : World} {g : Nat} {cs : List UInt8} (h : RowB w g cs) (q : Nat) (v : UInt8) (hq : q < cs.length) : RowB (w.setCell ⟨g, q, none⟩ (.int .u8 (v.toNat : Int))) g (cs.set q v) := by
  obtain ⟨cur, hc, hz⟩ := h
  refine ⟨_, heap_setCell_same w g q cur 5 _ hc, fun j c hj => ?_⟩
  rw [List.getElem?_set] at hj
  rw [Array.getElem?_setIfInBounds]
  have hs : q < cur.size := (Array.getElem?_eq_some_iff.1 (hz q cs[q] (List.getElem?_eq_getElem hq))).1
  by_cases e : q = j
  · subst e
    rw [if_pos rfl, if_pos hq] at hj
    obtain rfl : v = c := by simpa using hj
    rw [if_pos rfl, if_pos hs]
  · rw [if_neg e] at hj
    rw [if_neg e]
    exact hz j c hj
set_option maxRecDepth 100000 in
theorem flip_set (cs : List UInt8) (t : Nat) (c : UInt8) (hc : cs[t / 8]? = some c) : flip cs t = cs.set (t / 8) (c ^^^ UInt8.ofNat (2 ^ (t % 8))) := by
  apply List.ext_getElem?
  intro j
  unfold flip
  rw [List.getElem?_modify, List.getElem?_set]
  have hl := (List.getElem?_eq_some_iff.1 hc).1
  by_cases e : t / 8 = j
  · subst e; simp [hl, (List.getElem?_eq_some_iff.1 hc).2]
  · simp [e]
set_option maxRecDepth 100000 in
theorem bits_xor8 (a b : UInt8) : bits .xor .u8 (a.toNat : Int) (b.toNat : Int) = ((a ^^^ b).toNat : Int) := by
  show IntKind.u8.wrap ((BitVec.ofInt 8 (a.toNat : Int) ^^^ BitVec.ofInt 8 (b.toNat : Int)).toNat : Int) = _
  have e : ∀ c : UInt8, BitVec.ofInt 8 (c.toNat : Int) = c.toBitVec := by
    intro c
    rw [BitVec.ofInt_natCast]
    apply BitVec.eq_of_toNat_eq
    simp
  have h : (BitVec.ofInt 8 (a.toNat : Int) ^^^ BitVec.ofInt 8 (b.toNat : Int)).toNat = (a ^^^ b).toNat := by
    rw [e, e, UInt8.toNat_xor, BitVec.toNat_xor]; rfl
  rw [h, wrap_byte]
set_option maxRecDepth 100000 in
theorem bit_and (x : C.V) (i : Nat) : bits .and .u32 (N (x >>> i)) 1 = if x.getLsbD i then 1 else 0 := by
  have e := bits_and (x >>> i) 1#32
  rw [show N 1#32 = 1 by decide] at e
  rw [e, low_and, BitVec.getLsbD_ushiftRight, Nat.add_zero]
  cases x.getLsbD i <;> decide
set_option maxRecDepth 100000 in
theorem bit_pow (r : Nat) (h : r < 8) : (2 : Int) ^ r = ((UInt8.ofNat (2 ^ r)).toNat : Int) := by
  have : ∀ k : Fin 8, (2 : Int) ^ k.val = ((UInt8.ofNat (2 ^ k.val)).toNat : Int) := by decide
  exact this ⟨r, h⟩
set_option maxRecDepth 100000 in
theorem opened_sealed (bs : List UInt8) : opened (sealed bs) = bs ∧ openErr (sealed bs) = 0 := by
  have hl := len_sealed bs
  have ht : (sealed bs).take ((sealed bs).length - 4) = bs := by
    rw [hl, Nat.add_sub_cancel]; unfold sealed; rw [List.take_left]
  have h4 : ¬ (sealed bs).length < 4 := by omega
  constructor
  · rw [opened, if_neg h4, ht, if_pos rfl]
  · rw [openErr, if_neg h4, ht, if_pos rfl]
set_option maxRecDepth 100000 in
theorem opened_found {bs cs : List UInt8} {b : C.V} {k i : Nat} (h : Burst bs cs b k i true) : opened cs = [] ∧ openErr cs = 20 := by
  have hl := h.len
  have hf := h.found
  have h4 : ¬ cs.length < 4 := by omega
  exact ⟨by rw [opened, if_neg h4, if_neg hf], by rw [openErr, if_neg h4, if_neg hf]⟩

namespace Bts
/-- What the loop keeps. -/
def Inv (w1 : World) (gs : Nat) (bs : List UInt8) (x : C.V) (kk i : Nat) (t : Bool) (wr : World) : Prop := ∃ cs, Burst bs cs x kk i t ∧ RowB wr gs cs ∧ Adds w1 wr ∧ w1.heap.size ≤ gs
set_option maxRecDepth 100000 in
theorem rembits (a : Int) (m : Nat) (hm : 0 < m) : ∃ k : Nat, k < m ∧ (IntKind.u64.wrap a).tmod (m : Int) = (k : Int) ∧ IntKind.u64.wrap a % (m : Int) = (k : Int) := by
  have hu : 0 ≤ IntKind.u64.wrap a := by
    simp only [IntKind.wrap]
    exact Int.emod_nonneg _ (by decide)
  have e0 := Int.emod_nonneg (IntKind.u64.wrap a) (show (m : Int) ≠ 0 by omega)
  have e1 := Int.emod_lt_of_pos (IntKind.u64.wrap a) (show (0 : Int) < (m : Int) by omega)
  exact ⟨(IntKind.u64.wrap a % (m : Int)).toNat, by omega, by rw [Int.tmod_eq_emod_of_nonneg hu]; omega, by omega⟩

end Bts
end Go.Proofs.YtokbiekdompaoaaDoor

/- Pages that are sealed, and opened: page.Seal, page.Open. -/
namespace Go.Proofs.YtokbiekdompaoaaDoor
open Go.RowKit

namespace M
def sealE (bs : List UInt8) : Nat := match readP bs with
  | none => 22
  | some _ => 0
def sealP (bs : List UInt8) : List UInt8 := match readP bs with
  | none => []
  | some _ => sealed (bs.take 252)
def openE (bs : List UInt8) (no : Int) : Nat := if bs.length ≠ 256 then 21 else if sealed (bs.take 252) ≠ bs then 20 else match readP bs with
  | none => 22
  | some p => if (p.no : Int) ≠ no then 23 else 0
def openP (bs : List UInt8) (no : Int) : List UInt8 := if bs.length ≠ 256 then [] else if sealed (bs.take 252) ≠ bs then [] else match readP bs with
  | none => []
  | some p => if (p.no : Int) ≠ no then [] else pbytes p
end M
/-- Sealed bytes in a row of one's own. -/
def PSealed (w : World) (cs : List UInt8) (e : Ending) (w' : World) : Prop := ∃ g cap, e = .returned (.tuple #[.slice (some ⟨g, 0, none⟩) 256 cap, .int .i64 0]) ∧ Hid (w.heap.size ≤ g ∧ cs.length = 256 ∧ 256 ≤ cap ∧ w'.ownsRow w.heap.size 5 1 (.slice (some ⟨g, 0, none⟩) 256 cap) 256 (S cs) ∧ Adds w w')
set_option maxRecDepth 100000 in
set_option maxHeartbeats 1000000 in
theorem gseal_none {bs : List UInt8} (hR : M.readP bs = none) (a : Option Addr) (n cap : Nat) (w : World) (hn : bs.length = n) (hc : n ≤ cap) (hA : At w a bs) : Calls Tryd.prog 59 #[.slice a n cap] w (fun e w' => e = .returned (.tuple #[.slice none 0 0, .int .i64 22]) ∧ Adds w w') := by
  have H := hid (gread_none hR a n cap w hn hc hA)
  clear hA hn
  go_enter Tryd.func59, Tryd.ntmps59
  go_wp2_with (go_at_call 55; refine H.out.mono ?_; rintro e w1 ⟨va, vc, rfl, hA1⟩; have HA1 := hid hA1; clear hA1)
  go_ret2
  exact ⟨rfl, HA1.out.alloc _⟩
set_option maxRecDepth 100000 in
set_option maxHeartbeats 1000000 in
theorem gseal_some {bs : List UInt8} {p : M.Pg} (hR : M.readP bs = some p) (a : Option Addr) (cap : Nat) (w : World) (hn : bs.length = 256) (hc : 256 ≤ cap) (hA : At w a bs) (hT : Tab w) : Calls Tryd.prog 59 #[.slice a 256 cap] w (PSealed w (sealed (bs.take 252))) := by
  have H := hid (gread_some hR a 256 cap w hn hc hA)
  obtain ⟨b, o, rfl⟩ := hA.ad (by omega)
  have l2 : (bs.take 252).length = 252 := by rw [List.length_take]; omega
  have HS := hid (fun w1 (hA1 : Adds w w1) => show Calls Tryd.prog 73 #[.slice (some ⟨b, o, none⟩) 252 cap] w1 (PSeal w1 (bs.take 252)) by
    have q := seal_any (some ⟨b, o, none⟩) (bs.take 252) cap w1 (by omega) (fun e => by cases e) (hT.adds hA1) ((hA.pre 252).adds hA1)
    rw [l2] at q
    exact q)
  have HL := hid l2
  have hs1 : ∀ w', (Instr.sliceAt 55 (.slice (some ⟨b, o, none⟩) 256 cap) none (some (.int .i64 252)) none).run Tryd.prog w' = .ok (.slice (some ⟨b, o, none⟩) 252 cap) w' := fun w' => run_pre (some ⟨b, o, none⟩) 256 cap 252 (by omega) w'
  clear hA hn hT l2
  go_enter Tryd.func59, Tryd.ntmps59
  go_wp2_with (first
    | (go_at_call 55; refine H.out.mono ?_; rintro e w1 ⟨va, vc, hs, rfl, H1⟩)
    | (go_at_call 73; refine (HS.out _ (H1.out.2.2.1.alloc _)).mono ?_; rintro e w2 ⟨g, gc, rfl, hg, hown, hA2⟩; have H2 := hid (And.intro hg (And.intro hown hA2)); clear hg hown hA2; rw [HL.out]))
  go_ret2
  have hA2 : Adds w w2 := (H1.out.2.2.1.alloc _).trans H2.out.2.2
  have hsz : w.heap.size ≤ w1.heap.size := H1.out.2.2.1.size
  have hown := H2.out.2.1
  rw [HL.out] at hown
  have hg := H2.out.1
  simp at hg
  refine ⟨g, gc, rfl, by omega, by rw [len_sealed, HL.out], ?_, row_base hown (fun j hj => by have h1 := (row_low hown hj).1; simp at h1; omega), hA2⟩
  obtain ⟨_, _, e, hle, _⟩ := own_cq hown
  cases e
  exact hle
set_option maxRecDepth 100000 in
theorem sealed_open {bs : List UInt8} (hl : bs.length = 256) : openErr bs = (if sealed (bs.take 252) = bs then 0 else 20) := by
  rw [openErr, if_neg (by omega), hl]
set_option maxRecDepth 100000 in
/-- What Open tells of bytes of a sector. -/
theorem openE_bad {bs : List UInt8} {no : Int} (hl : bs.length = 256) (h : sealed (bs.take 252) ≠ bs) : M.openE bs no = 20 ∧ M.openP bs no = [] := by
  have h1 : ¬ bs.length ≠ 256 := by omega
  rw [M.openE, M.openP, if_neg h1, if_neg h1, if_pos h, if_pos h]; exact ⟨rfl, rfl⟩
set_option maxRecDepth 100000 in
theorem openE_in {bs : List UInt8} {no : Int} (hl : bs.length = 256) (h : sealed (bs.take 252) = bs) : M.openE bs no = (match M.readP bs with | none => 22 | some p => if (p.no : Int) ≠ no then 23 else 0) ∧ M.openP bs no = (match M.readP bs with | none => [] | some p => if (p.no : Int) ≠ no then [] else M.pbytes p) := by
  have h1 : ¬ bs.length ≠ 256 := by omega
  have h2 : ¬ sealed (bs.take 252) ≠ bs := fun c => c h
  rw [M.openE, M.openP, if_neg h1, if_neg h1, if_neg h2, if_neg h2]
  cases M.readP bs <;> exact ⟨rfl, rfl⟩
set_option maxRecDepth 100000 in
set_option maxHeartbeats 1000000 in
theorem gopen_long (a : Option Addr) (bs : List UInt8) (n cap : Nat) (no : Int) (w : World) (hn : bs.length = n) (h : n ≠ 256) : Calls Tryd.prog 60 #[.slice a n cap, .int .i64 no] w (PTold w (M.openP bs no) (M.openE bs no)) := by
  have HE := hid (show M.openP bs no = [] ∧ M.openE bs no = 21 by rw [M.openE, M.openP, if_pos (by omega), if_pos (by omega)]; exact ⟨rfl, rfl⟩)
  have h1 : ((n : Int) != 256) = true := by simp; omega
  clear h hn
  go_enter Tryd.func60, Tryd.ntmps60
  go_wp2_with fail
  go_ret2
  exact PTold.nil (Touch.refl _ _) HE.out.1 (by rw [HE.out.2]; rfl)
set_option maxRecDepth 100000 in
set_option maxHeartbeats 1000000 in
theorem gopen_256 (a : Option Addr) (bs : List UInt8) (cap : Nat) (no : Int) (w : World) (hn : bs.length = 256) (hc : 256 ≤ cap) (hA : At w a bs) (hT : Tab w) : Calls Tryd.prog 60 #[.slice a 256 cap, .int .i64 no] w (PTold w (M.openP bs no) (M.openE bs no)) := by
  have HO := hid (show Calls Tryd.prog 74 #[.slice a 256 cap] w (POpen w bs) by have q := open_any a bs cap w (by omega) (by omega) hT hA; rw [hn] at q; exact q)
  have he := sealed_open hn
  by_cases hs : sealed (bs.take 252) = bs
  · rw [if_pos hs] at he
    unfold POpen at HO
    rw [he] at HO
    obtain ⟨hE, hP⟩ := openE_in (no := no) hn hs
    cases hR : M.readP bs with
    | none =>
      rw [hR] at hE hP
      have HE := hid (And.intro hE hP)
      have H := hid (fun w1 (hA1 : Adds w w1) => gread_none hR a 256 cap w1 hn hc (hA.adds hA1))
      clear hA hn hT hs he hE hP hR
      go_enter Tryd.func60, Tryd.ntmps60
      go_wp2_with (first
        | (go_at_call 74; refine HO.out.mono ?_; rintro e w1 ⟨ay, cy, rfl, ho1, hA1⟩; have A1 := hid hA1; clear hA1 ho1)
        | (go_at_call 55; refine (H.out w1 A1.out).mono ?_; rintro e w2 ⟨va, vc, rfl, hA2⟩; have A2 := hid (A1.out.trans hA2); clear hA2))
      go_ret2
      exact PTold.nil (A2.out.alloc _) HE.out.2 (by rw [HE.out.1]; rfl)
    | some p =>
      rw [hR] at hE hP
      simp only at hE hP
      have H := hid (fun w1 (hA1 : Adds w w1) => gread_some hR a 256 cap w1 hn hc (hA.adds hA1))
      have hok := (M.read_ok hR).1
      have HK := hid hok
      by_cases hno : (p.no : Int) = no
      · subst hno
        rw [if_neg (by simp)] at hE hP
        have HE := hid (And.intro hE hP)
        clear hA hn hT hs he hE hP hR hok
        go_enter Tryd.func60, Tryd.ntmps60
        go_wp2_with (first
          | (go_at_call 74; refine HO.out.mono ?_; rintro e w1 ⟨ay, cy, rfl, ho1, hA1⟩; have A1 := hid hA1; clear hA1 ho1)
          | (go_at_call 55; refine (H.out w1 A1.out).mono ?_; rintro e w2 ⟨va, vc, hs, rfl, H2⟩; have A2 := hid (A1.out.trans H2.out.2.2.1))
          | (go_at_call 47; refine (gpage_any p.no p.kind va hs p.cells.length vc H2.out.2.2.2.1 _ (H2.out.2.1.adds ((Touch.refl _ w2).alloc _)) HK.out.no (by rw [H2.out.1]; exact HK.out.room)).mono ?_; rintro e w3 ⟨g, rfl, H3⟩))
        go_ret2
        have hlen := M.len_pbytes HK.out.room
        have e3 := H3.out.2.1
        rw [H2.out.1] at e3
        exact ⟨some ⟨g, 0, none⟩, 256, by rw [HE.out.1, HE.out.2, hlen]; rfl, by rw [HE.out.2]; exact e3.at, by rw [HE.out.2, hlen]; exact Nat.le_refl _, ⟨fun e => (by cases e), fun b o e => by cases e; have h1 := H3.out.1; have h2 := A2.out.size; simp at h1; omega⟩, (A2.out.alloc _).trans H3.out.2.2⟩
      · have hnb : ((p.no : Int) != no) = true := by simpa using hno
        rw [if_pos hno] at hE hP
        have HE := hid (And.intro hE hP)
        clear hA hn hT hs he hE hP hR hok
        go_enter Tryd.func60, Tryd.ntmps60
        go_wp2_with (first
          | (go_at_call 74; refine HO.out.mono ?_; rintro e w1 ⟨ay, cy, rfl, ho1, hA1⟩; have A1 := hid hA1; clear hA1 ho1)
          | (go_at_call 55; refine (H.out w1 A1.out).mono ?_; rintro e w2 ⟨va, vc, hs, rfl, H2⟩; have A2 := hid (A1.out.trans H2.out.2.2.1)))
        go_ret2
        exact PTold.nil (A2.out.alloc _) HE.out.2 (by rw [HE.out.1]; rfl)
  · rw [if_neg hs] at he
    unfold POpen at HO
    rw [he] at HO
    have HE := hid (openE_bad (no := no) hn hs)
    clear hA hn hT hs he
    go_enter Tryd.func60, Tryd.ntmps60
    go_wp2_with (first
      | (go_at_call 74; refine HO.out.mono ?_; rintro e w1 ⟨ay, cy, rfl, ho1, hA1⟩; have A1 := hid hA1; clear hA1 ho1))
    go_ret2
    exact PTold.nil A1.out HE.out.2 (by rw [HE.out.1]; rfl)
set_option maxRecDepth 100000 in
theorem gopen_any (a : Option Addr) (bs : List UInt8) (n cap : Nat) (no : Int) (w : World) (hn : bs.length = n) (hc : n ≤ cap) (hA : At w a bs) (hT : Tab w) : Calls Tryd.prog 60 #[.slice a n cap, .int .i64 no] w (PTold w (M.openP bs no) (M.openE bs no)) := by
  by_cases h : n = 256
  · subst h; exact gopen_256 a bs cap no w hn hc hA hT
  · exact gopen_long a bs n cap no w hn h
end Go.Proofs.YtokbiekdompaoaaDoor
