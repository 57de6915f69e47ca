/- Texts put together: FQ0, FQ1, FQ2, FDrop, FQM, FQ3, FQ4, FQ5, FQ6. -/
import Derived.Test.YtjlennpoaefllaaGreatDoorQ27
import Derived.Test.YtjlennpoaefllaaGreatDoorQ30
import Derived.Test.YtjlennpoaefllaaGreatDoorQ22
import Derived.Maps.AppendAt
import Derived.BigQuiet
import Derived.Test.YtjlennpoaefllaaGreatDoorQ20
import Derived.Deep.MidRow
import Derived.Deep.WholeRow
/- The reference's pool in memory. -/
namespace Go.Proofs.YtjlennpoaefllaaGreatDoor
open Go.RowKit

/-- A frame's cells. -/
def fc (f : F.Fr) : List Value := [.int .i64 f.no, Str f.now, Str f.was, .bool f.fresh, .bool f.dirty]
def fcs (L : List F.Fr) : List Value := L.flatMap fc
theorem fcs_len : ∀ (L : List F.Fr), (fcs L).length = L.length * 5
  | [] => rfl
  | x :: L => by
    have := fcs_len L
    simp only [fcs, List.flatMap_cons, List.length_append, List.length_cons] at this ⊢
    rw [this]; simp [fc]; omega
theorem fcs_get : ∀ (L : List F.Fr) (k : Nat) (hk : k < L.length) (j : Nat), j < 5 → (fcs L)[k * 5 + j]? = (fc L[k])[j]?
  | [], k, hk, _, _ => absurd hk (by simp)
  | x :: L, 0, _, j, hj => by
    simp only [fcs, List.flatMap_cons, Nat.zero_mul, Nat.zero_add, List.getElem_cons_zero]
    rw [List.getElem?_append_left (by simp [fc]; exact hj)]
  | x :: L, k + 1, hk, j, hj => by
    have ih := fcs_get L k (by simpa using hk) j hj
    simp only [fcs, List.flatMap_cons] at ih ⊢
    rw [List.getElem?_append_right (by simp [fc]; omega), show (fc x).length = 5 from rfl, show (k + 1) * 5 + j - 5 = k * 5 + j by omega, ih, List.getElem_cons_succ]
set_option maxRecDepth 100000 in
theorem fcs_app (L K : List F.Fr) : fcs (L ++ K) = fcs L ++ fcs K := by simp [fcs]
set_option maxRecDepth 100000 in
theorem fcs_one (f : F.Fr) : fcs [f] = fc f := by simp [fcs]
set_option maxRecDepth 100000 in
theorem fcs_take (L : List F.Fr) (k : Nat) (h : k ≤ L.length) : (fcs L).take (k * 5) = fcs (L.take k) := by
  have e : fcs L = fcs (L.take k) ++ fcs (L.drop k) := by rw [← fcs_app, List.take_append_drop]
  rw [e, List.take_left' (by rw [fcs_len, List.length_take]; omega)]
set_option maxRecDepth 100000 in
theorem fcs_drop (L : List F.Fr) (k : Nat) (h : k ≤ L.length) : (fcs L).drop (k * 5) = fcs (L.drop k) := by
  have e : fcs L = fcs (L.take k) ++ fcs (L.drop k) := by rw [← fcs_app, List.take_append_drop]
  rw [e, List.drop_left' (by rw [fcs_len, List.length_take]; omega)]
theorem one_fcs (L : List F.Fr) : ∀ u ∈ fcs L, u.oneCell' = true := fun u hu => by
  obtain ⟨f, _, hu⟩ := List.mem_flatMap.1 hu
  simp only [fc, List.mem_cons, List.not_mem_nil, or_false] at hu
  rcases hu with rfl | rfl | rfl | rfl | rfl <;> rfl
set_option maxRecDepth 100000 in
theorem infoFrame : ∃ i, Tryz.prog.info? 136 = some i ∧ i.zero = some (.agg #[.int .i64 0, Str [], Str [], .bool false, .bool false]) ∧ i.size = 5 ∧ i.bytes = 48 := by
  have h : (Tryz.prog.info? 136).map (fun i => (i.zero, i.size, i.bytes)) = some (some (.agg #[.int .i64 0, Str [], Str [], .bool false, .bool false]), 5, 48) := by kernel_rfl
  cases hq : Tryz.prog.info? 136 with
  | none => rw [hq] at h; cases h
  | some i =>
    rw [hq] at h
    simp only [Option.map_some, Option.some.injEq, Prod.mk.injEq] at h
    exact ⟨i, rfl, h.1, h.2.1, h.2.2⟩
/-- The reference's struct. -/
abbrev QBox (r : Nat) (s : F.Po) (lv : Value) : Obj := .cells #[Ptr r, .int .i64 s.fr, .int .i64 s.ct, .int .i64 s.mo, lv] 92 (0, 0)
/-- At q lies the reference's pool on the disk r, in the state s. -/
structure QAt (w : World) (O : Nat → Prop) (q r : Nat) (s : F.Po) (lv : Value) : Prop where
  box : w.heap[q]? = some (QBox r s lv)
  row : w.ownsRow 0 136 5 lv s.L.length (fcs s.L)
  oq : O q
  ol : ∀ k, lv.ownBlock = some k → O k
def IsQ (w : World) (O : Nat → Prop) (q r : Nat) (s : F.Po) : Prop := ∃ lv, QAt w O q r s lv
theorem QAt.touch {w w' : World} {O T : Nat → Prop} {q r : Nat} {s : F.Po} {lv : Value} (h : QAt w O q r s lv) (hT : Touch T w w') (hn : ∀ k, O k → ¬ T k) : QAt w' O q r s lv :=
  ⟨by rw [hT.block q (Array.getElem?_eq_some_iff.1 h.box).1 (hn _ h.oq)]; exact h.box, own_kept h.row hT (fun k hk => hn k (h.ol k hk)), h.oq, h.ol⟩
theorem QAt.adds {w w' : World} {O : Nat → Prop} {q r : Nat} {s : F.Po} {lv : Value} (h : QAt w O q r s lv) (hT : Adds w w') : QAt w' O q r s lv := h.touch hT (fun _ _ => id)
set_option maxRecDepth 100000 in
theorem IsQ.touch {w w' : World} {O T : Nat → Prop} {q r : Nat} {s : F.Po} (h : IsQ w O q r s) (hT : Touch T w w') (hn : ∀ k, O k → ¬ T k) : IsQ w' O q r s := by
  obtain ⟨lv, h⟩ := h
  exact ⟨lv, h.touch hT hn⟩
theorem IsQ.adds {w w' : World} {O : Nat → Prop} {q r : Nat} {s : F.Po} (h : IsQ w O q r s) (hT : Adds w w') : IsQ w' O q r s := h.touch hT (fun _ _ => id)
theorem QAt.mono {w : World} {O O' : Nat → Prop} {q r : Nat} {s : F.Po} {lv : Value} (h : QAt w O q r s lv) (hn : ∀ k, O k → O' k) : QAt w O' q r s lv := ⟨h.box, h.row, hn _ h.oq, fun k hk => hn k (h.ol k hk)⟩
set_option maxRecDepth 100000 in
theorem QAt.ne {w : World} {O : Nat → Prop} {q r : Nat} {s : F.Po} {lv : Value} (h : QAt w O q r s lv) {k : Nat} (hk : lv.ownBlock = some k) : k ≠ q := by
  intro e
  subst e
  obtain ⟨c, hc⟩ := own_type h.row hk
  rw [h.box] at hc
  simp at hc
set_option maxRecDepth 100000 in
/-- Where the frames lie. -/
theorem QAt.at' {w : World} {O : Nat → Prop} {q r : Nat} {s : F.Po} {lv : Value} (h : QAt w O q r s lv) : ∃ ao cap, lv = .slice ao s.L.length cap ∧ s.L.length ≤ cap ∧
    (0 < s.L.length → ∃ g, ao = some ⟨g, 0, none⟩ ∧ lv.ownBlock = some g ∧ (∀ k (hk : k < s.L.length) j, j < 5 → w.cell? ⟨g, k * 5 + j, none⟩ = (fc s.L[k])[j]?) ∧ (∀ i, w.frozen? ⟨g, i, none⟩ = false)) := by
  rcases h.row.2 with ⟨e, hn⟩ | ⟨g, cap, cur, e, _, hgg, hnc, _⟩
  · exact ⟨none, 0, by rw [e, hn], by omega, fun h0 => by omega⟩
  · have hh := h.row
    rw [e] at hh
    refine ⟨some ⟨g, 0, none⟩, cap, e, hnc, fun _ => ⟨g, rfl, by rw [e]; rfl, fun k hk j hj => ?_, fun i => hh.frozenAt i⟩⟩
    rw [hh.cellAt (k * 5 + j) (by omega), fcs_get s.L k hk j hj]
/-- What a call of the reference's pool leaves. -/
def PQ11 (w : World) (O : Nat → Prop) (q r : Nat) (s : F.Po) (v : Value) (e : Ending) (w' : World) : Prop := e = .returned v ∧ Hid (∃ O', IsQ w' O' q r s ∧ Touch O w w' ∧ ∀ k, O' k → O k ∨ (w.heap.size ≤ k ∧ k < w'.heap.size))
theorem PQ11.same {w w' : World} {O : Nat → Prop} {q r : Nat} {s : F.Po} (h : IsQ w O q r s) (hA : Adds w w') (v : Value) : PQ11 w O q r s v (.returned v) w' := ⟨rfl, O, h.adds hA, hA.mono (fun _ _ c => c.elim), fun _ c => .inl c⟩
namespace F
/-- Where a page's frame stands. -/
def idx (L : List Fr) (no : Int) : Int := match L.findIdx? (fun f => decide (f.no = no)) with
  | some i => (i : Int)
  | none => -1
set_option maxRecDepth 100000 in
theorem idx_hit {L : List Fr} {no : Int} {i : Nat} (hi : i < L.length) (h : L[i].no = no) (hb : ∀ j (hj : j < i), (L[j]'(by omega)).no ≠ no) : idx L no = (i : Int) := by
  have : L.findIdx? (fun f => decide (f.no = no)) = some i := by
    rw [List.findIdx?_eq_some_iff_getElem]
    exact ⟨hi, by simp [h], fun j hj => by simpa using hb j hj⟩
  unfold idx
  rw [this]
set_option maxRecDepth 100000 in
theorem idx_miss {L : List Fr} {no : Int} (h : ∀ f ∈ L, f.no ≠ no) : idx L no = -1 := by
  have : L.findIdx? (fun f => decide (f.no = no)) = none := by
    rw [List.findIdx?_eq_none_iff]
    intro f hf
    simpa using h f hf
  unfold idx
  rw [this]
set_option maxRecDepth 100000 in
/-- A page that is held, or not. -/
theorem idx_is (L : List Fr) (no : Int) : (∃ i, ∃ hi : i < L.length, idx L no = (i : Int) ∧ L[i].no = no ∧ at? L no = some L[i]) ∨ (idx L no = -1 ∧ at? L no = none ∧ ∀ f ∈ L, f.no ≠ no) := by
  cases h : L.findIdx? (fun f => decide (f.no = no)) with
  | some i =>
    obtain ⟨hi, h1, h2⟩ := List.findIdx?_eq_some_iff_getElem.1 h
    refine .inl ⟨i, hi, by unfold idx; rw [h], by simpa using h1, ?_⟩
    unfold at?
    rw [List.find?_eq_some_iff_getElem]
    exact ⟨h1, i, hi, rfl, fun j hj => by simpa using h2 j hj⟩
  | none =>
    have h1 := List.findIdx?_eq_none_iff.1 h
    have h2 : ∀ f ∈ L, f.no ≠ no := fun f hf => by simpa using h1 f hf
    refine .inr ⟨by unfold idx; rw [h], ?_, h2⟩
    unfold at?
    rw [List.find?_eq_none]
    intro f hf
    simpa using h2 f hf
/-- Which frame is given up: -1, none has to be; -2, none can be. -/
def outI (s : Po) : Int := if (s.L.length : Int) < s.mo then -1 else match s.L.findIdx? clean with
  | some i => (i : Int)
  | none => -2
/-- A frame is taken away. -/
def cutI (L : List Fr) (i : Int) : List Fr := if 0 ≤ i then L.take i.toNat ++ L.drop (i.toNat + 1) else L
end F
end Go.Proofs.YtjlennpoaefllaaGreatDoor

/- The reference's calls find, out and drop. -/
namespace Go.Proofs.YtjlennpoaefllaaGreatDoor
open Go.RowKit

set_option maxRecDepth 100000 in
set_option maxHeartbeats 2000000 in
theorem qfind_any {w : World} {O : Nat → Prop} {q r : Nat} {s : F.Po} {lv : Value} (h : QAt w O q r s lv) (no : Int) (hl : s.L.length ≤ 10000) : Calls Tryz.prog 84 #[Ptr q, .int .i64 no] w (Tells (.int .i64 (F.idx s.L no)) w) := by
  have c4 : w.cell? ⟨q, 4, none⟩ = some lv := cellOf h.box 4
  obtain ⟨ao, cap, rfl, hcap, hat⟩ := h.at'
  have HAt := hid hat
  have HM := hid (fun h => @F.idx_miss s.L no h)
  have HH := hid (fun i hi h hb => @F.idx_hit s.L no i hi h hb)
  clear h hat
  obtain ⟨n, hn⟩ : ∃ n, n = s.L.length := ⟨_, rfl⟩
  have HN := hid hn
  rw [← hn] at c4 hl hcap
  obtain ⟨z, hz⟩ : ∃ z, z = F.idx s.L no := ⟨_, rfl⟩
  have HZ := hid hz
  rw [← hz]
  clear hz hn
  unfold Ptr
  go_enter Tryz.func84, Tryz.ntmps84
  go_wp2_with fail
  go_loopw [5] (fun iv wr => ∃ i : Nat, iv = .int .i64 (i : Int) ∧ i ≤ n ∧ wr = w ∧ Hid (∀ j (hj : j < s.L.length), j < i → (s.L[j]).no ≠ no)) (fun iv _ => n - (intOf iv).toNat)
  case atStart => exact ⟨0, rfl, Nat.zero_le _, rfl, fun j _ hj => by omega⟩
  case round =>
    obtain ⟨i, rfl, hi, rfl, HB⟩ := hrel
    by_cases hlt : i < n
    · have hltz : (i : Int) < (n : Int) := by omega
      have hi' : i < s.L.length := by rw [← HN.out]; exact hlt
      obtain ⟨g, ea, _, hc, _⟩ := HAt.out (by omega)
      subst ea
      have e0 : wr.cell? ⟨g, i * 5, none⟩ = some (.int .i64 (s.L[i]).no) := hc i hi' 0 (by omega)
      obtain ⟨k, hk⟩ : ∃ k, k = (s.L[i]).no := ⟨_, rfl⟩
      rw [← hk] at e0
      have HK := hid hk
      clear hc hk
      by_cases hq : k = no
      · subst hq
        have hqq : (k == k) = true := by simp
        go_wp2_with fail
        go_ret
        exact ⟨by rw [HZ.out, HH.out i hi' HK.out.symm (fun j hj => HB.out j (by omega) hj)]; rfl, rfl⟩
      · have hqq : (k == no) = false := by simpa using hq
        go_wp2_with fail
        go_roundw
        case rel =>
          refine ⟨i + 1, by go_num, by omega, trivial, fun j hj hji => ?_⟩
          by_cases e : j = i
          · subst e; rw [← HK.out]; exact hq
          · exact HB.out j hj (by omega)
        case measure => simp [intOf]; omega
    · have hltz : ¬ (i : Int) < (n : Int) := by omega
      go_wp2_with fail
      go_ret
      have e : z = -1 := by
        rw [HZ.out]
        refine HM.out (fun f hf => ?_)
        obtain ⟨j, hj, rfl⟩ := List.mem_iff_getElem.1 hf
        exact HB.out j hj (by have := HN.out; omega)
      rw [e]
      exact ⟨rfl, rfl⟩
set_option maxRecDepth 100000 in
set_option maxHeartbeats 2000000 in
theorem qout_any {w : World} {O : Nat → Prop} {q r : Nat} {s : F.Po} {lv : Value} (h : QAt w O q r s lv) (hl : s.L.length ≤ 10000) : Calls Tryz.prog 96 #[Ptr q] w (Adding (.int .i64 (F.outI s)) w) := by
  have c3 : w.cell? ⟨q, 3, none⟩ = some (.int .i64 s.mo) := cellOf h.box 3
  have c4 : w.cell? ⟨q, 4, none⟩ = some lv := cellOf h.box 4
  have HB0 := hid h
  obtain ⟨ao, cap, rfl, hcap, hat⟩ := h.at'
  have HE : Hid (F.outI s = if (s.L.length : Int) < s.mo then -1 else match s.L.findIdx? F.clean with
    | some i => (i : Int)
    | none => -2) := rfl
  clear h hat
  obtain ⟨n, hn⟩ : ∃ n, n = s.L.length := ⟨_, rfl⟩
  have HN := hid hn
  rw [← hn] at c4 hl hcap HE
  obtain ⟨z, hz⟩ : ∃ z, z = F.outI s := ⟨_, rfl⟩
  have HZ := hid hz
  rw [← hz]
  clear hz hn
  unfold Ptr
  by_cases hm : (n : Int) < s.mo
  · have e : z = -1 := by rw [HZ.out, HE.out, if_pos hm]
    rw [e]
    have hd : decide ((n : Int) < s.mo) = true := decide_eq_true hm
    go_enter Tryz.func96, Tryz.ntmps96
    go_upto_region 1 with fail
    go_quiet (fail)
    go_wp2
    go_ret
    exact ⟨rfl, adds_drewN w _⟩
  · have hd : decide ((n : Int) < s.mo) = false := decide_eq_false hm
    have HE2 := hid (show F.outI s = match s.L.findIdx? F.clean with
      | some i => (i : Int)
      | none => -2 by rw [HE.out, if_neg hm])
    clear HE hm
    go_enter Tryz.func96, Tryz.ntmps96
    go_upto_region 1 with fail
    go_quiet (fail)
    go_wp2
    go_loopw [3] (fun iv wr => ∃ i : Nat, iv = .int .i64 (i : Int) ∧ i ≤ n ∧ Hid (Adds w wr) ∧ Hid (∀ j (hj : j < s.L.length), j < i → F.clean s.L[j] = false)) (fun iv _ => n - (intOf iv).toNat)
    case atStart => exact ⟨0, rfl, Nat.zero_le _, adds_drewN w _, fun j _ hj => by omega⟩
    case round =>
      obtain ⟨i, rfl, hi, HA, HB⟩ := hrel
      have hq := HB0.out.adds HA.out
      have d4 : wr.cell? ⟨q, 4, none⟩ = some (.slice ao n cap) := by have := cellOf hq.box 4; rw [← HN.out] at this; exact this
      by_cases hlt : i < n
      · have hltz : (i : Int) < (n : Int) := by omega
        have hi' : i < s.L.length := by rw [← HN.out]; exact hlt
        obtain ⟨ao', cap', e', _, hat⟩ := hq.at'
        obtain ⟨g, ea, _, hc, _⟩ := hat (by omega)
        cases e'
        subst ea
        have e3 : wr.cell? ⟨g, i * 5 + 3, none⟩ = some (.bool (s.L[i]).fresh) := hc i hi' 3 (by omega)
        have e4 : wr.cell? ⟨g, i * 5 + 4, none⟩ = some (.bool (s.L[i]).dirty) := hc i hi' 4 (by omega)
        have HC : Hid (F.clean s.L[i] = (!(s.L[i]).fresh && !(s.L[i]).dirty)) := rfl
        obtain ⟨f, hf⟩ : ∃ f, f = (s.L[i]).fresh := ⟨_, rfl⟩
        obtain ⟨d, hd⟩ : ∃ d, d = (s.L[i]).dirty := ⟨_, rfl⟩
        rw [← hf] at e3 HC
        rw [← hd] at e4 HC
        clear hq hc hat hf hd
        cases f with
        | true =>
          go_wp2_with fail
          go_roundw
          case rel =>
            refine ⟨i + 1, by go_num, by omega, HA.out, fun j hj hji => ?_⟩
            by_cases e : j = i
            · subst e; rw [HC.out]; rfl
            · exact HB.out j hj (by omega)
          case measure => simp [intOf]; omega
        | false =>
          cases d with
          | true =>
            go_wp2_with fail
            go_roundw
            case rel =>
              refine ⟨i + 1, by go_num, by omega, HA.out, fun j hj hji => ?_⟩
              by_cases e : j = i
              · subst e; rw [HC.out]; rfl
              · exact HB.out j hj (by omega)
            case measure => simp [intOf]; omega
          | false =>
            go_wp2_with fail
            go_ret
            have e : z = (i : Int) := by
              have : s.L.findIdx? F.clean = some i := by
                rw [List.findIdx?_eq_some_iff_getElem]
                exact ⟨hi', by rw [HC.out]; rfl, fun j hj => by simpa using HB.out j (by omega) hj⟩
              rw [HZ.out, HE2.out, this]
            rw [e]
            exact ⟨rfl, HA.out⟩
      · have hltz : ¬ (i : Int) < (n : Int) := by omega
        clear hq
        go_wp2_with fail
        go_ret
        have e : z = -2 := by
          have : s.L.findIdx? F.clean = none := by
            rw [List.findIdx?_eq_none_iff]
            intro f hf
            obtain ⟨j, hj, rfl⟩ := List.mem_iff_getElem.1 hf
            exact HB.out j hj (by have := HN.out; omega)
          rw [HZ.out, HE2.out, this]
        rw [e]
        exact ⟨rfl, HA.out⟩
end Go.Proofs.YtjlennpoaefllaaGreatDoor

/- The reference's frames: one is taken away. -/
namespace Go.Proofs.YtjlennpoaefllaaGreatDoor
open Go.RowKit

set_option maxRecDepth 100000 in
theorem own_low {w : World} {B : Nat} {e : TypeId} {size : Nat} {v : Value} {n : Nat} {xs : List Value} (h : w.ownsRow B e size v n xs) {k : Nat} (hk : v.ownBlock = some k) : B ≤ k ∧ k < w.heap.size := by
  rcases h.2 with ⟨rfl, _⟩ | ⟨g, cap, cur, rfl, hb, hg, _⟩
  · cases hk
  · obtain rfl : g = k := by simpa [Value.ownBlock] using hk
    exact ⟨hb, (Array.getElem?_eq_some_iff.1 hg).1⟩
set_option maxRecDepth 100000 in
theorem own_down {w : World} {B : Nat} {e : TypeId} {size : Nat} {v : Value} {n : Nat} {xs : List Value} (h : w.ownsRow B e size v n xs) : w.ownsRow 0 e size v n xs := by
  refine ⟨h.1, ?_⟩
  rcases h.2 with hq | ⟨g, cap, cur, e1, hb, rest⟩
  · exact .inl hq
  · exact .inr ⟨g, cap, cur, e1, Nat.zero_le _, rest⟩
theorem grown_touch {w w' : World} {v : Value} (hg : w.grownBy w' v.ownBlock) : Touch (fun k => v.ownBlock = some k) w w' := ⟨hg.os, hg.tape, hg.output, hg.size, fun k hk hn => hg.block k hk (fun e => hn e.symm)⟩
set_option maxRecDepth 100000 in
/-- Frames are put behind frames. -/
theorem append_fr {w : World} {ops : Array Oper} {rest : List Oper} {o : Oper} {act : Act} {Q : Exit → Act → World → Prop} (hgd : o.guard = none) (s x : Operand)
    (ho : o.op = .call { callee := .builtin .append, args := #[s, x], argTypes := #[90, 90] }) (B : Nat) (v : Value) (n : Nat) (L : List F.Fr) (hs : act.eval s = v) (hown : w.ownsRow B 136 5 v n (fcs L))
    (ad : Addr) (m c : Nat) (K : List F.Fr) (hm : K.length = m) (hx : act.eval x = .slice (some ad) m c) (hK : ∀ j u, (fcs K)[j]? = some u → w.cell? (ad.add j) = some u) (hlen : n + m ≤ 100000) (hB : B ≤ w.heap.size)
    (h : ∀ v' w', w'.ownsRow B 136 5 v' (n + m) (fcs (L ++ K)) → w.grownBy w' v.ownBlock → (v'.ownBlock = v.ownBlock ∨ v'.ownBlock = some w.heap.size) → wpList Tryz.prog ops Q rest (act.put o.dst v') w') : wpList Tryz.prog ops Q (o :: rest) act w := by
  obtain ⟨i0, hi, hz0, hz1, hz2⟩ := infoFrame
  refine wpList_append_own_at _ hgd s x 90 ho B 136 i0 _ 5 48 Tryz.underlying90 hi hz0 hz1 hz2 rfl (by decide) v n (fcs L) hs hown ad m c (fcs K) hx (by rw [fcs_len, hm]) hK (one_fcs K) (by unfold maxLen; omega) (by omega) hB (fun v' w' h1 h2 _ h4 => h v' w' (by rw [fcs_app]; exact h1) h2 h4)
set_option maxRecDepth 100000 in
/-- A list of frames is set. -/
theorem QAt.set {w w2 : World} {O : Nat → Prop} {q r : Nat} {s : F.Po} {lv v2 : Value} {L : List F.Fr} (h : QAt w O q r s lv) (hT : Touch (fun k => lv.ownBlock = some k) w w2) (hrow : w2.ownsRow 0 136 5 v2 L.length (fcs L)) (hat : ∀ k, v2.ownBlock = some k → lv.ownBlock = some k ∨ w.heap.size ≤ k) :
    w2.heap[q]? = some (QBox r s lv) ∧ ∃ O', QAt (w2.setCell ⟨q, 4, none⟩ v2) O' q r { s with L := L } v2 ∧ Touch O w (w2.setCell ⟨q, 4, none⟩ v2) ∧ ∀ k, O' k → O k ∨ (w.heap.size ≤ k ∧ k < (w2.setCell ⟨q, 4, none⟩ v2).heap.size) := by
  have hb : w2.heap[q]? = some (QBox r s lv) := by rw [hT.block q (Array.getElem?_eq_some_iff.1 h.box).1 (fun e => h.ne e rfl)]; exact h.box
  have hT2 : Touch (fun k => k = q) w2 (w2.setCell ⟨q, 4, none⟩ v2) := Touch.setCell (T := fun k => k = q) (Touch.refl _ w2) (p := ⟨q, 4, none⟩) (fun _ => rfl) _
  refine ⟨hb, fun k => O k ∨ v2.ownBlock = some k, ⟨heap_setCell_same w2 q 4 _ 92 _ hb, own_kept hrow hT2 (fun k hk e => ?_), .inl h.oq, fun k hk => .inr hk⟩, ?_, fun k c => ?_⟩
  · subst e
    obtain ⟨c, hc⟩ := own_type hrow hk
    rw [hb] at hc
    simp at hc
  · exact (hT.mono (fun k _ e => h.ol k e)).trans (hT2.mono (fun k _ e => by rw [e]; exact h.oq))
  · rcases c with c | c
    · exact .inl c
    · rcases hat k c with c' | c'
      · exact .inl (h.ol k c')
      · exact .inr ⟨c', Nat.lt_of_lt_of_le (own_low hrow c).2 hT2.size⟩
set_option maxRecDepth 100000 in
theorem sizeFrame (w : World) : (sizeOf 136).run Tryz.prog w = .ok 5 w := by kernel_rfl
set_option maxRecDepth 100000 in
theorem elemFrame : Tryz.prog.elem 90 = 136 := by kernel_rfl
set_option maxRecDepth 100000 in
theorem run_preQ (g len cap n : Nat) (hn : n ≤ cap) (w : World) : (Instr.sliceAt 90 (.slice (some ⟨g, 0, none⟩) len cap) none (some (.int .i64 (n : Int))) none).run Tryz.prog w = .ok (.slice (some ⟨g, 0, none⟩) n cap) w := by
  rw [run_sliceAt_slice w 90 _ _ _ _ Tryz.underlying90, run_slice_h w 90 _ len cap Tryz.underlying90 .i64 n (by omega) (by omega)]
  rw [elemFrame, sizeFrame]
  simp only [Result.andThen, sliced, Int.toNat_natCast, Nat.zero_mul, Nat.sub_zero]
  congr 2
  split
  · rfl
  · rfl
def sufQ (g cap n : Nat) : Addr := if cap = n then ⟨g, 0, none⟩ else ⟨g, n * 5, none⟩
set_option maxRecDepth 100000 in
theorem run_sufQ (g len cap n : Nat) (hn : n ≤ len) (w : World) : (Instr.sliceAt 90 (.slice (some ⟨g, 0, none⟩) len cap) (some (.int .i64 (n : Int))) none none).run Tryz.prog w = .ok (.slice (some (sufQ g cap n)) (len - n) (cap - n)) w := by
  rw [run_sliceAt_slice w 90 _ _ _ _ Tryz.underlying90, run_slice_l w 90 _ len cap Tryz.underlying90 .i64 n (by omega) (by omega)]
  rw [elemFrame, sizeFrame]
  simp only [Result.andThen, sliced, Int.toNat_natCast]
  unfold sufQ
  split
  · rfl
  · simp [Addr.add]
    omega
set_option maxRecDepth 100000 in
set_option maxHeartbeats 2000000 in
theorem qdrop_no {w : World} {O : Nat → Prop} {q r : Nat} {s : F.Po} {lv : Value} (h : QAt w O q r s lv) (i : Int) (hi : i < 0) : Calls Tryz.prog 97 #[Ptr q, .int .i64 i] w (PQ11 w O q r { s with L := F.cutI s.L i } (.tuple #[])) := by
  have e : ({ s with L := F.cutI s.L i } : F.Po) = s := by unfold F.cutI; rw [if_neg (by omega)]
  rw [e]
  have HQ := hid (PQ11.same (show IsQ w O q r s from ⟨lv, h⟩) (Touch.refl _ w) (.tuple #[]))
  have hd : decide ((0 : Int) ≤ i) = false := by simp; omega
  clear h e
  go_enter Tryz.func97, Tryz.ntmps97
  go_wp2_with fail
  go_end0
  exact HQ.out
set_option maxRecDepth 100000 in
set_option maxHeartbeats 2000000 in
theorem qdrop_yes {w : World} {O : Nat → Prop} {q r : Nat} {s : F.Po} {lv : Value} (h : QAt w O q r s lv) (hl : s.L.length ≤ 10000) (i : Nat) (hi : i < s.L.length) : Calls Tryz.prog 97 #[Ptr q, .int .i64 (i : Int)] w (PQ11 w O q r { s with L := F.cutI s.L (i : Int) } (.tuple #[])) := by
  have e : F.cutI s.L (i : Int) = s.L.take i ++ s.L.drop (i + 1) := by unfold F.cutI; rw [if_pos (by omega), Int.toNat_natCast]
  rw [e]
  clear e
  obtain ⟨ao, cap, rfl, hcap, hat⟩ := h.at'
  obtain ⟨g, rfl, hown, hc, _⟩ := hat (by omega)
  have c4 : w.cell? ⟨q, 4, none⟩ = some (.slice (some ⟨g, 0, none⟩) s.L.length cap) := cellOf h.box 4
  have cA4 : ∀ o, (w.alloc o).cell? ⟨q, 4, none⟩ = some (.slice (some ⟨g, 0, none⟩) s.L.length cap) := fun o => below_adds ((Touch.refl _ w).alloc o) c4
  have HQ := hid h
  have HC := hid (fun j u (hu : (fcs s.L)[j]? = some u) => show w.cell? ⟨g, j, none⟩ = some u by
    have hj := (List.getElem?_eq_some_iff.1 hu).1
    rw [fcs_len] at hj
    have e1 : j = (j / 5) * 5 + j % 5 := by omega
    have q1 := hc (j / 5) (by omega) (j % 5) (by omega)
    rw [← fcs_get s.L (j / 5) (by omega) (j % 5) (by omega), ← e1, hu] at q1
    exact q1)
  have HL := hid (And.intro hl hi)
  obtain ⟨n, hn⟩ : ∃ n, n = s.L.length := ⟨_, rfl⟩
  have HN := hid hn
  rw [← hn] at c4 cA4 hcap hl hi
  have hi0 : decide ((0 : Int) ≤ (i : Int)) = true := by simp
  have hs1 := run_preQ g n cap i (by omega)
  have hs2 := run_sufQ g n cap (i + 1) (by omega)
  have hw1 : wrap64 ((i : Int) + 1) = (i : Int) + 1 := by simp [wrap64]; omega
  have hwi : (i : Int) + 1 = ((i + 1 : Nat) : Int) := by omega
  rw [← hwi] at hs2
  have HR1 := hid (show (w.alloc (.cells #[] 136)).ownsRow w.heap.size 136 5 (.slice (some ⟨w.heap.size, 0, none⟩) 0 0) 0 (fcs []) from World.ownsRow_lit (base := w.heap.size) (e := 136) (size := 5) w #[] 0 (Nat.le_refl _) (by decide) rfl)
  have HT1 := hid (show (s.L.take i).length = i by rw [List.length_take]; have := HN.out; omega)
  have HT2 := hid (show (s.L.drop (i + 1)).length = n - (i + 1) by rw [List.length_drop, ← HN.out])
  have HB1 := hid (show w.heap.size ≤ (w.alloc (.cells #[] 136)).heap.size by simp)
  have HK1 := hid (show ∀ j u, (fcs (s.L.take i))[j]? = some u → (w.alloc (.cells #[] 136)).cell? ((⟨g, 0, none⟩ : Addr).add j) = some u from fun j u hu => by
    rw [Addr.add_mid, Nat.zero_add]
    refine below_adds ((Touch.refl _ w).alloc _) (HC.out j u ?_)
    rw [← fcs_take s.L i (by have := HN.out; omega), List.getElem?_take] at hu
    split at hu
    · exact hu
    · cases hu)
  have HK2 := hid (show ∀ w2, Adds w w2 → ∀ j u, (fcs (s.L.drop (i + 1)))[j]? = some u → w2.cell? ((sufQ g cap (i + 1)).add j) = some u from fun w2 hA j u hu => by
    have hj := (List.getElem?_eq_some_iff.1 hu).1
    rw [fcs_len, List.length_drop] at hj
    have hne : cap ≠ i + 1 := by have := HN.out; omega
    unfold sufQ
    rw [if_neg hne, Addr.add_mid]
    refine below_adds hA (HC.out _ u ?_)
    rw [← fcs_drop s.L (i + 1) (by have := HN.out; omega), List.getElem?_drop] at hu
    exact hu)
  have HA2 := hid (show ∀ v2 w2, (w.alloc (.cells #[] 136)).grownBy w2 (Value.slice (some ⟨w.heap.size, 0, none⟩) 0 0).ownBlock → w2.ownsRow w.heap.size 136 5 v2 (0 + i) (fcs ([] ++ s.L.take i)) → Adds w w2 ∧ w2.ownsRow w.heap.size 136 5 v2 i (fcs (s.L.take i)) from fun v2 w2 hg hr => by
    refine ⟨((Touch.refl (fun _ => False) w).alloc _).then (grown_touch hg) (fun k hk c => ?_), by rw [Nat.zero_add, List.nil_append] at hr; exact hr⟩
    have e : w.heap.size = k := by simpa [Value.ownBlock] using c
    omega)
  have HA3 := hid (show ∀ v2 w2 v3 w3, Adds w w2 → w2.ownsRow w.heap.size 136 5 v2 i (fcs (s.L.take i)) → w2.grownBy w3 v2.ownBlock → w3.ownsRow w.heap.size 136 5 v3 (i + (n - (i + 1))) (fcs (s.L.take i ++ s.L.drop (i + 1))) → (∃ ga gc, v3 = .slice ga (i + (n - (i + 1))) gc) ∧ w3.heap[q]? = some (QBox r s (.slice (some ⟨g, 0, none⟩) s.L.length cap)) ∧ PQ11 w O q r { s with L := s.L.take i ++ s.L.drop (i + 1) } (.tuple #[]) (.returned (.tuple #[])) (w3.setCell ⟨q, 4, none⟩ v3) from fun v2 w2 v3 w3 hA hr hg hr3 => by
    have hA3 : Adds w w3 := hA.then (grown_touch hg) (fun k hk c => by have := (own_low hr c).1; omega)
    obtain ⟨q1, O', h1, h2, h3⟩ := HQ.out.set (hA3.mono (fun _ _ c => c.elim)) (L := s.L.take i ++ s.L.drop (i + 1)) (v2 := v3) (by
      rw [show (s.L.take i ++ s.L.drop (i + 1)).length = i + (n - (i + 1)) by rw [List.length_append, HT1.out, HT2.out]]
      exact own_down hr3) (fun k hk => .inr (own_low hr3 hk).1)
    refine ⟨?_, q1, rfl, O', ⟨_, h1⟩, h2, h3⟩
    rcases hr3.2 with ⟨e, e0⟩ | ⟨g3, cap3, _, e, _⟩
    · exact ⟨none, 0, by rw [e, e0]⟩
    · exact ⟨_, _, e⟩)
  unfold Ptr at *
  clear h hat hc hn hown hwi
  go_enter Tryz.func97, Tryz.ntmps97
  go_upto_region 2 with (first
    | (at_builtin; refine append_fr rfl _ _ rfl w.heap.size (.slice (some ⟨w.heap.size, 0, none⟩) 0 0) 0 [] rfl HR1.out ⟨g, 0, none⟩ i cap (s.L.take i) HT1.out rfl HK1.out (by omega) HB1.out ?_; intro v2 w2 hr2 hg2 ha2; have H2 := hid (HA2.out v2 w2 hg2 hr2); clear hr2 hg2 ha2))
  have d4 : w2.cell? ⟨q, 4, none⟩ = some (.slice (some ⟨g, 0, none⟩) n cap) := below_adds H2.out.1 c4
  go_wp2_with (first
    | (at_builtin; refine append_fr rfl _ _ rfl w.heap.size v2 i (s.L.take i) rfl H2.out.2 (sufQ g cap (i + 1)) (n - (i + 1)) (cap - (i + 1)) (s.L.drop (i + 1)) HT2.out rfl (HK2.out w2 H2.out.1) (by omega) H2.out.1.size ?_; intro v3 w3 hr3 hg3 ha3; obtain ⟨⟨ga, gc, e3⟩, hb3, hp3⟩ := HA3.out v2 w2 v3 w3 H2.out.1 H2.out.2 hg3 hr3; subst e3; have d5 := cellOf hb3 4; have f5 := frozen_of_row w3 q 4 _ 92 hb3; have H3 := hid hp3; clear hr3 hg3 ha3 hb3 hp3))
  go_end0
  exact H3.out
end Go.Proofs.YtjlennpoaefllaaGreatDoor

/- The pool's call Drop. -/
namespace Go.Proofs.YtjlennpoaefllaaGreatDoor
open Go.RowKit

namespace F
set_option maxRecDepth 100000 in
theorem drp_no (f : Fr) : (drp f).no = f.no := by unfold drp; split <;> rfl
end F
/-- A frame that is dropped. -/
def Tk.drp (t : Tk) : Tk := { t with f := F.drp t.f }
end Go.Proofs.YtjlennpoaefllaaGreatDoor

/- The reference's steps and the pool's by definition are the same. -/
namespace Go.Proofs.YtjlennpoaefllaaGreatDoor
open Go.RowKit
namespace F
/-- What was is kept only of a fresh page that was dirty. -/
def Nil (s : Po) : Prop := ∀ f ∈ s.L, (f.fresh && f.dirty) = false → f.was = []
set_option maxRecDepth 100000 in
theorem Nil.held {s : Po} (h : Nil s) {no : Int} {f : Fr} (hf : (f.fresh && f.dirty) = false → f.was = []) : Nil (held s no f) := by
  intro g hg c
  rcases List.mem_append.1 hg with hg | hg
  · exact h g ((out_sub s no).mem ((sansF_sub _ _).mem hg)) c
  · obtain rfl := List.mem_singleton.1 hg
    exact hf c
set_option maxRecDepth 100000 in
theorem Nil.put {s : Po} (h : Nil s) (no : Int) (bs : List UInt8) : Nil (putS s no bs) := by
  unfold putS
  split
  · refine h.held (fun c => ?_)
    show wasB s no = []
    have c' : wasD s no = false := by simpa using c
    unfold wasD at c'
    unfold wasB
    cases ha : at? s.L no with
    | none => rfl
    | some f =>
      rw [ha] at c'
      have c2 : f.dirty = false := c'
      cases hf : f.fresh with
      | true => show (if f.fresh then f.was else if f.dirty then f.now else []) = []; rw [if_pos hf]; exact h f (at_mem ha).1 (by rw [c2, Bool.and_false])
      | false => show (if f.fresh then f.was else if f.dirty then f.now else []) = []; rw [if_neg (by rw [hf]; decide), if_neg (by rw [c2]; decide)]
  · exact h
set_option maxRecDepth 100000 in
theorem Nil.get {s : Po} (h : Nil s) (D : dSt) (no : Int) : Nil (getS s D no) := by
  unfold getS
  split
  · refine h.held (fun c => ?_)
    unfold getF at c ⊢
    cases ha : at? s.L no with
    | none => rfl
    | some f =>
      rw [ha] at c
      exact h f (at_mem ha).1 c
  · exact h
set_option maxRecDepth 100000 in
theorem Nil.acc {s : Po} (h : Nil s) : Nil (accS s) := by
  intro g hg c
  obtain ⟨f, hf, rfl⟩ := List.mem_map.1 hg
  unfold F.acc at c ⊢
  cases hq : f.fresh with
  | true => simp
  | false => simp only [Bool.false_eq_true, if_false]; exact h f hf (by rw [hq]; rfl)
set_option maxRecDepth 100000 in
theorem Nil.drop {s : Po} (h : Nil s) : Nil (dropS s) := by
  intro g hg c
  obtain ⟨f, hf, rfl⟩ := List.mem_map.1 hg
  unfold drp at c ⊢
  cases hq : f.fresh with
  | true => simp
  | false => simp only [Bool.false_eq_true, if_false]; exact h f (List.mem_filter.1 hf).1 (by rw [hq]; rfl)
set_option maxRecDepth 100000 in
theorem Good.drop {s : Po} (h : Good s) : Good (dropS s) := by
  have hm : ∀ g ∈ (dropS s).L, ∃ f ∈ s.L, kept f = true ∧ drp f = g := fun g hg => by
    obtain ⟨f, hf, e⟩ := List.mem_map.1 hg
    exact ⟨f, (List.mem_filter.1 hf).1, (List.mem_filter.1 hf).2, e⟩
  have hsub : ((dropS s).L.map (·.no)).Sublist (s.L.map (·.no)) := by
    show (((s.L.filter kept).map drp).map (·.no)).Sublist _
    rw [List.map_map]
    have e : (s.L.filter kept).map ((·.no) ∘ drp) = (s.L.filter kept).map (·.no) := List.map_congr_left (fun f _ => drp_no f)
    rw [e]
    exact List.filter_sublist.map _
  refine ⟨fun g hg => ?_, fun g hg => ?_, fun g hg h1 _ => ?_, ?_, h.nd.sublist hsub⟩
  · obtain ⟨f, hf, _, rfl⟩ := hm g hg
    rw [drp_no]; exact h.nos f hf
  · obtain ⟨f, hf, hk, rfl⟩ := hm g hg
    rw [drp_no]
    unfold drp
    cases hfr : f.fresh with
    | false => exact h.pgs f hf
    | true => exact h.was f hf hfr (by unfold kept at hk; rw [hfr] at hk; simpa using hk)
  · obtain ⟨f, hf, _, rfl⟩ := hm g hg
    unfold drp at h1
    cases hfr : f.fresh with
    | false => rw [hfr] at h1; simp at h1; rw [hfr] at h1; cases h1
    | true => rw [hfr] at h1; simp at h1
  · have := hsub.length_le
    rw [List.length_map, List.length_map] at this
    have := h.len
    show (((dropS s).L.length : Nat) : Int) ≤ s.mo
    omega
set_option maxRecDepth 100000 in
theorem sans_none {L : List Fr} {no : Int} (h : ∀ f ∈ L, f.no ≠ no) : sansF L no = L := by
  unfold sansF
  rw [List.filter_eq_self]
  intro f hf
  simpa using h f hf
set_option maxRecDepth 100000 in
theorem cut_sans {L : List Fr} (hn : (L.map (·.no)).Nodup) {i : Nat} (hi : i < L.length) : sansF L L[i].no = cutI L (i : Int) := by
  obtain ⟨x, hx⟩ : ∃ x, x = L[i] := ⟨_, rfl⟩
  have e : L = L.take i ++ x :: L.drop (i + 1) := by rw [hx, ← List.drop_eq_getElem_cons hi, List.take_append_drop]
  rw [← hx]
  have hc : cutI L (i : Int) = L.take i ++ L.drop (i + 1) := by unfold cutI; rw [if_pos (by omega), Int.toNat_natCast]
  rw [hc]
  have hn2 : ((L.take i).map (·.no) ++ (x.no :: (L.drop (i + 1)).map (·.no))).Nodup := by
    have q := hn
    rw [e, List.map_append, List.map_cons] at q
    exact q
  obtain ⟨_, h2, h3⟩ := List.nodup_append.1 hn2
  obtain ⟨h4, _⟩ := List.nodup_cons.1 h2
  have e2 : sansF L x.no = sansF (L.take i) x.no ++ sansF (x :: L.drop (i + 1)) x.no := by
    unfold sansF
    rw [← List.filter_append, ← e]
  rw [e2, sans_none (fun f hf c => h3 _ (List.mem_map.2 ⟨f, hf, rfl⟩) _ List.mem_cons_self c)]
  congr 1
  have e3 : sansF (x :: L.drop (i + 1)) x.no = sansF (L.drop (i + 1)) x.no := by unfold sansF; rw [List.filter_cons]; simp
  rw [e3, sans_none (fun f hf c => h4 (List.mem_map.2 ⟨f, hf, c⟩))]
set_option maxRecDepth 100000 in
/-- A page that is held is the youngest. -/
theorem held_idx {s : Po} (hg : Good s) {no : Int} {i : Nat} (hi : i < s.L.length) (hn : s.L[i].no = no) (ha : at? s.L no = some s.L[i]) (f : Fr) : held s no f = { s with L := cutI s.L (i : Int) ++ [f] } := by
  have ho : out s no = s.L := by unfold out; rw [(need_at ha).1]; rfl
  unfold held
  rw [ho, ← cut_sans hg.nd hi, hn]
set_option maxRecDepth 100000 in
/-- Which frame is given up for a page that is not held. -/
theorem out_is {s : Po} (hg : Good s) {no : Int} (ha : at? s.L no = none) (hno : ∀ f ∈ s.L, f.no ≠ no) : (outI s = -2 ∧ room s no = false) ∨ (∃ j : Int, outI s = j ∧ j ≠ -2 ∧ j < (s.L.length : Int) ∧ room s no = true ∧ ∀ f, held s no f = { s with L := cutI s.L j ++ [f] }) := by
  by_cases hlt : (s.L.length : Int) < s.mo
  · have hn : need s no = false := by unfold need; rw [ha]; simp; omega
    have ho : out s no = s.L := by unfold out; rw [hn]; rfl
    refine .inr ⟨-1, by unfold outI; rw [if_pos hlt], by decide, by omega, by unfold room; rw [hn]; rfl, fun f => ?_⟩
    unfold held
    rw [ho, sans_none hno]
    unfold cutI
    rw [if_neg (by decide)]
  · have hn : need s no = true := by unfold need; rw [ha]; simp; omega
    cases hf : s.L.findIdx? clean with
    | none =>
      have hold : old s.L = none := by
        unfold old
        rw [List.find?_eq_none]
        intro f hf'
        rw [List.findIdx?_eq_none_iff.1 hf f hf']
        decide
      refine .inl ⟨by unfold outI; rw [if_neg hlt, hf], ?_⟩
      unfold room
      rw [hn, hold]
      rfl
    | some i =>
      obtain ⟨hi, h1, h2⟩ := List.findIdx?_eq_some_iff_getElem.1 hf
      have hold : old s.L = some s.L[i] := by
        unfold old
        rw [List.find?_eq_some_iff_getElem]
        exact ⟨h1, i, hi, rfl, fun j hj => by simpa using h2 j hj⟩
      refine .inr ⟨(i : Int), by unfold outI; rw [if_neg hlt, hf], by omega, by omega, by unfold room; rw [hn, hold]; rfl, fun f => ?_⟩
      have ho : out s no = cutI s.L (i : Int) := by unfold out; rw [hn, hold]; exact cut_sans hg.nd hi
      unfold held
      rw [ho, sans_none (fun g hg' => ?_)]
      have : g ∈ s.L := by
        unfold cutI at hg'
        rw [if_pos (by omega)] at hg'
        rcases List.mem_append.1 hg' with c | c
        · exact List.mem_of_mem_take c
        · exact List.mem_of_mem_drop c
      exact hno g this
set_option maxRecDepth 100000 in
theorem cut_len (L : List Fr) (i : Int) : (cutI L i).length ≤ L.length := by
  unfold cutI
  split
  · rw [List.length_append, List.length_take, List.length_drop]; omega
  · exact Nat.le_refl _
/-- The numbers of pages, as the reference tells them. -/
def isAt (s : Po) (m : Fr → Bool) (z : Int) : Bool := match at? s.L z with
  | some f => m f
  | none => false
def numsTo (s : Po) (m : Fr → Bool) (n : Nat) : List Int := ((List.range n).map (fun k : Nat => (k : Int))).filter (isAt s m)
set_option maxRecDepth 100000 in
theorem nums_next (s : Po) (m : Fr → Bool) (n : Nat) : numsTo s m (n + 1) = if isAt s m (n : Int) = true then numsTo s m n ++ [(n : Int)] else numsTo s m n := by
  unfold numsTo
  rw [List.range_succ, List.map_append, List.filter_append, List.map_cons, List.map_nil, List.filter_cons, List.filter_nil]
  split
  · rfl
  · rw [List.append_nil]
end F
end Go.Proofs.YtjlennpoaefllaaGreatDoor

/- The reference's call Where. -/
namespace Go.Proofs.YtjlennpoaefllaaGreatDoor
open Go.RowKit

/-- On the way through the pages. -/
structure WhAt (w wr : World) (s : F.Po) (m : F.Fr → Bool) (lv : Value) (k : Nat) : Prop where
  row : wr.ownsRow w.heap.size 3 1 lv (F.numsTo s m k).length (I (F.numsTo s m k))
  adds : Adds w wr
set_option maxRecDepth 100000 in
theorem WhAt.skip {w wr : World} {s : F.Po} {m : F.Fr → Bool} {lv : Value} {k : Nat} (h : WhAt w wr s m lv k) (hm : F.isAt s m (k : Int) = false) : WhAt w wr s m lv (k + 1) := by
  have e : F.numsTo s m (k + 1) = F.numsTo s m k := by rw [F.nums_next, if_neg (by rw [hm]; decide)]
  exact ⟨by rw [e]; exact h.row, h.adds⟩
set_option maxRecDepth 100000 in
theorem WhAt.take {w wr w2 : World} {s : F.Po} {m : F.Fr → Bool} {lv v' : Value} {k : Nat} {o : Obj} (h : WhAt w wr s m lv k) (hm : F.isAt s m (k : Int) = true) (hr : w2.ownsRow w.heap.size 3 1 v' ((F.numsTo s m k).length + 1) (I (F.numsTo s m k) ++ [.int .i64 (k : Int)])) (hg : (wr.alloc o).grownBy w2 lv.ownBlock) : WhAt w w2 s m v' (k + 1) := by
  have e : F.numsTo s m (k + 1) = F.numsTo s m k ++ [(k : Int)] := by rw [F.nums_next, if_pos hm]
  have e2 : I (F.numsTo s m k ++ [(k : Int)]) = I (F.numsTo s m k) ++ [.int .i64 (k : Int)] := by simp [I]
  refine ⟨by rw [e, e2, List.length_append]; exact hr, (h.adds.alloc o).then (grown_touch hg) (fun j hj c => ?_)⟩
  have := (row_low h.row c).1
  omega
end Go.Proofs.YtjlennpoaefllaaGreatDoor

/- The reference's call Accept. -/
namespace Go.Proofs.YtjlennpoaefllaaGreatDoor
open Go.RowKit

theorem fcs_setF : ∀ (L : List F.Fr) (k : Nat) (hk : k < L.length) (j : Nat) (v : Value) (f : F.Fr), j < 5 → (fc L[k]).set j v = fc f → (fcs L).set (k * 5 + j) v = fcs (L.set k f)
  | [], k, hk, _, _, _, _, _ => absurd hk (by simp)
  | x :: L, 0, _, j, v, f, hj, hf => by
    simp only [fcs, List.flatMap_cons, Nat.zero_mul, Nat.zero_add, List.set_cons_zero]
    rw [List.set_append_left _ _ (by simp [fc]; exact hj)]
    have hf' : (fc x).set j v = fc f := hf
    rw [hf']
  | x :: L, k + 1, hk, j, v, f, hj, hf => by
    have ih := fcs_setF L k (by simpa using hk) j v f hj hf
    simp only [fcs, List.flatMap_cons, List.set_cons_succ] at ih ⊢
    rw [List.set_append_right _ _ (by simp [fc]; omega), show (fc x).length = 5 from rfl, show (k + 1) * 5 + j - 5 = k * 5 + j by omega, ih]
set_option maxRecDepth 100000 in
/-- A frame's cell is stored to. -/
theorem QAt.store {w : World} {O : Nat → Prop} {q r : Nat} {s : F.Po} {lv : Value} {g : Nat} (h : QAt w O q r s lv) (hg : lv.ownBlock = some g) {k : Nat} (hk : k < s.L.length) {j : Nat} (hj : j < 5) {v : Value} {f : F.Fr} (hf : (fc s.L[k]).set j v = fc f) :
    QAt (w.setCell ⟨g, k * 5 + j, none⟩ v) O q r { s with L := s.L.set k f } lv ∧ Touch (fun b => b = g) w (w.setCell ⟨g, k * 5 + j, none⟩ v) := by
  have hT : Touch (fun b => b = g) w (w.setCell ⟨g, k * 5 + j, none⟩ v) := Touch.setCell (T := fun b => b = g) (Touch.refl _ w) (p := ⟨g, k * 5 + j, none⟩) (fun _ => rfl) _
  obtain ⟨cap, e⟩ : ∃ cap, lv = .slice (some ⟨g, 0, none⟩) s.L.length cap := by
    rcases h.row.2 with ⟨e, _⟩ | ⟨g', cap, _, e, _⟩
    · rw [e] at hg; cases hg
    · rw [e] at hg
      obtain rfl : g' = g := by simpa [Value.ownBlock] using hg
      exact ⟨cap, e⟩
  refine ⟨⟨?_, ?_, h.oq, h.ol⟩, hT⟩
  · rw [hT.block q (Array.getElem?_eq_some_iff.1 h.box).1 (fun e => h.ne hg e.symm)]; exact h.box
  · have hr := h.row
    rw [e] at hr
    have q1 := (hr.stored (k * 5 + j) v).1
    rw [fcs_setF s.L k hk j v f hj hf] at q1
    show World.ownsRow _ 0 136 5 lv (s.L.set k f).length (fcs (s.L.set k f))
    rw [List.length_set, e]
    exact q1
namespace F
/-- The first frames are changed. -/
def mapT (g : Fr → Fr) (L : List Fr) (i : Nat) : List Fr := (L.take i).map g ++ L.drop i
set_option maxRecDepth 100000 in
theorem mapT_len (g : Fr → Fr) (L : List Fr) (i : Nat) : (mapT g L i).length = L.length := by
  unfold mapT
  rw [List.length_append, List.length_map, List.length_take, List.length_drop]; omega
set_option maxRecDepth 100000 in
theorem mapT_at {g : Fr → Fr} {L : List Fr} {i : Nat} (hi : i < L.length) : (mapT g L i)[i]'(by rw [mapT_len]; exact hi) = L[i] := by
  have h : (mapT g L i)[i]? = some L[i] := by
    unfold mapT
    rw [List.getElem?_append_right (by rw [List.length_map, List.length_take]; omega), List.length_map, List.length_take, show i - min i L.length = 0 by omega, List.getElem?_drop, Nat.add_zero, List.getElem?_eq_getElem hi]
  exact (List.getElem?_eq_some_iff.1 h).2
set_option maxRecDepth 100000 in
theorem mapT_next {g : Fr → Fr} {L : List Fr} {i : Nat} (hi : i < L.length) : mapT g L (i + 1) = (mapT g L i).set i (g L[i]) := by
  unfold mapT
  rw [List.set_append_right _ _ (by rw [List.length_map, List.length_take]; omega), List.length_map, List.length_take, show i - min i L.length = 0 by omega]
  have e1 : L.take (i + 1) = L.take i ++ [L[i]] := by simp
  have e2 : L.drop i = L[i] :: L.drop (i + 1) := List.drop_eq_getElem_cons hi
  rw [e1, e2, List.map_append, List.set_cons_zero, List.append_assoc]
  rfl
set_option maxRecDepth 100000 in
theorem mapT_same {g : Fr → Fr} {L : List Fr} {i : Nat} (hi : i < L.length) (h : g L[i] = L[i]) : mapT g L (i + 1) = mapT g L i := by
  rw [mapT_next hi, h]
  have := mapT_at (g := g) hi
  conv => lhs; rw [← this]
  exact List.set_getElem_self _
end F
/-- On the way through the frames. -/
structure AcAt (w wr : World) (O : Nat → Prop) (q r : Nat) (s : F.Po) (lv : Value) (g : F.Fr → F.Fr) (i : Nat) : Prop where
  q : QAt wr O q r { s with L := F.mapT g s.L i } lv
  touch : Touch O w wr
theorem AcAt.same {w wr : World} {O : Nat → Prop} {q r : Nat} {s : F.Po} {lv : Value} {g : F.Fr → F.Fr} {i : Nat} (h : AcAt w wr O q r s lv g i) (hi : i < s.L.length) (hg : g s.L[i] = s.L[i]) : AcAt w wr O q r s lv g (i + 1) := ⟨by rw [F.mapT_same hi hg]; exact h.q, h.touch⟩
end Go.Proofs.YtjlennpoaefllaaGreatDoor

/- The reference's call Drop. -/
namespace Go.Proofs.YtjlennpoaefllaaGreatDoor
open Go.RowKit
namespace F
/-- What is left of the first frames. -/
def dropT (L : List Fr) (i : Nat) : List Fr := ((L.take i).filter kept).map drp
set_option maxRecDepth 100000 in
theorem dropT_next {L : List Fr} {i : Nat} (hi : i < L.length) : dropT L (i + 1) = if kept L[i] then dropT L i ++ [drp L[i]] else dropT L i := by
  unfold dropT
  have e1 : L.take (i + 1) = L.take i ++ [L[i]] := by simp
  rw [e1, List.filter_append, List.map_append, List.filter_cons]
  cases h : kept L[i] <;> simp
end F
set_option maxRecDepth 100000 in
theorem infoFr (f : F.Fr) : (Tryz.prog.info? 136).map (·.size) = some (fc f).length := by kernel_rfl
theorem one_fc (f : F.Fr) : ∀ u ∈ fc f, u.oneCell' = true := fun u hu => one_fcs [f] u (by rw [fcs_one]; exact hu)
theorem range_box {w : World} {b : Nat} {f : F.Fr} (h : w.heap[b]? = some (.cells (fc f).toArray 136 (0, 0))) : w.rangeAt b 0 (fc f) := fun j v hv => by
  rw [Nat.zero_add, cellOf h, List.getElem?_toArray]
  exact hv
set_option maxRecDepth 100000 in
theorem build_fr (f : F.Fr) (w : World) : (Instr.buildSlice 90 1 #[(0, .agg (fc f).toArray)]).run Tryz.prog w = .ok (.slice (some ⟨w.heap.size, 0, none⟩) 1 1) (w.alloc (.cells (fc f).toArray 136)) := by
  unfold fc
  kernel_rfl
/-- On the way through the frames. -/
structure DrAt (w wr : World) (s : F.Po) (lv : Value) (i : Nat) : Prop where
  row : wr.ownsRow w.heap.size 136 5 lv (F.dropT s.L i).length (fcs (F.dropT s.L i))
  adds : Adds w wr
set_option maxRecDepth 100000 in
/-- One more is kept. -/
theorem DrAt.more {w wr w2 w3 : World} {s : F.Po} {lv v3 : Value} {i : Nat} (h : DrAt w wr s lv i) (hi : i < s.L.length) (hk : F.kept s.L[i] = true) (hT : Touch (fun k => wr.heap.size ≤ k) wr w2) (hr : w3.ownsRow w.heap.size 136 5 v3 ((F.dropT s.L i).length + 1) (fcs (F.dropT s.L i ++ [F.drp s.L[i]]))) (hg : w2.grownBy w3 lv.ownBlock) : DrAt w w3 s v3 (i + 1) := by
  have e : F.dropT s.L (i + 1) = F.dropT s.L i ++ [F.drp s.L[i]] := by rw [F.dropT_next hi, if_pos hk]
  have z1 := h.adds.size
  refine ⟨by rw [e, List.length_append]; exact hr, (h.adds.then hT (fun k hk' c => by omega)).then (grown_touch hg) (fun k hk' c => ?_)⟩
  have := (own_low h.row c).1
  omega
end Go.Proofs.YtjlennpoaefllaaGreatDoor

/- The reference's call Get. -/
namespace Go.Proofs.YtjlennpoaefllaaGreatDoor
open Go.RowKit

/-- From a world to a later one, of a pool of the reference's. -/
def Qs (w : World) (O : Nat → Prop) (w' : World) (O' : Nat → Prop) : Prop := Touch O w w' ∧ ∀ k, O' k → O k ∨ (w.heap.size ≤ k ∧ k < w'.heap.size)
set_option maxRecDepth 100000 in
theorem Qs.trans {w w1 w2 : World} {O O1 O2 : Nat → Prop} (h : Qs w O w1 O1) (h2 : Qs w1 O1 w2 O2) : Qs w O w2 O2 := by
  have z1 := h.1.size
  have z2 := h2.1.size
  refine ⟨h.1.then h2.1 (fun k hk c => ?_), fun k c => ?_⟩
  · rcases h.2 k c with c | c
    · exact c
    · omega
  · rcases h2.2 k c with c | c
    · rcases h.2 k c with c | c
      · exact .inl c
      · exact .inr ⟨c.1, by omega⟩
    · exact .inr ⟨by omega, c.2⟩
theorem Qs.adds {w w1 : World} (O : Nat → Prop) (hA : Adds w w1) : Qs w O w1 O := ⟨hA.mono (fun _ _ c => c.elim), fun _ c => .inl c⟩
set_option maxRecDepth 100000 in
theorem wp_append_fr {w : World} {o : Oper} {act : Act} {K : Act → World → Prop} {Q : Exit → Act → World → Prop} (s x : Operand)
    (ho : o.op = .call { callee := .builtin .append, args := #[s, x], argTypes := #[90, 90] }) (B : Nat) (v : Value) (n : Nat) (L : List F.Fr) (hs : act.eval s = v) (hown : w.ownsRow B 136 5 v n (fcs L))
    (ad : Addr) (m c : Nat) (M : List F.Fr) (hm : M.length = m) (hx : act.eval x = .slice (some ad) m c) (hK : ∀ j u, (fcs M)[j]? = some u → w.cell? (ad.add j) = some u) (hlen : n + m ≤ 100000) (hB : B ≤ w.heap.size)
    (h : ∀ v' w', w'.ownsRow B 136 5 v' (n + m) (fcs (L ++ M)) → w.grownBy w' v.ownBlock → (v'.ownBlock = v.ownBlock ∨ v'.ownBlock = some w.heap.size) → K (act.put o.dst v') w') : o.wp Tryz.prog act w K Q := by
  obtain ⟨i0, hi, hz0, hz1, hz2⟩ := infoFrame
  exact wp_append_own_at s x 90 ho B 136 i0 _ 5 48 Tryz.underlying90 hi hz0 hz1 hz2 rfl (by decide) v n (fcs L) hs hown ad m c (fcs M) hx (by rw [fcs_len, hm]) hK (one_fcs M) (by unfold maxLen; omega) (by omega) hB (fun v' w' h1 h2 _ h4 => h v' w' (by rw [fcs_app]; exact h1) h2 h4)
theorem box_cells {w : World} {b : Nat} {f : F.Fr} (h : w.heap[b]? = some (.cells (fc f).toArray 136 (0, 0))) : ∀ j u, (fcs [f])[j]? = some u → w.cell? ((⟨b, 0, none⟩ : Addr).add j) = some u := fun j u hu => by
  rw [fcs_one] at hu
  rw [Addr.add_mid, Nat.zero_add, cellOf h, List.getElem?_toArray]
  exact hu
set_option maxRecDepth 100000 in
theorem row_form {w : World} {B : Nat} {e : TypeId} {size : Nat} {v : Value} {n : Nat} {xs : List Value} (h : w.ownsRow B e size v n xs) : ∃ a c, v = .slice a n c := by
  rcases h.2 with ⟨e, e0⟩ | ⟨g3, cap3, _, e, _⟩
  · exact ⟨none, 0, by rw [e, e0]⟩
  · exact ⟨_, _, e⟩
set_option maxRecDepth 100000 in
/-- A frame has been put behind the others. -/
theorem q_pushed {w w6 w7 : World} {O : Nat → Prop} {q r : Nat} {s : F.Po} {lv v7 : Value} {f : F.Fr} (h : QAt w O q r s lv) (hA : Adds w w6) (hr : w7.ownsRow 0 136 5 v7 (s.L.length + 1) (fcs (s.L ++ [f]))) (hg : w6.grownBy w7 lv.ownBlock) (ha : v7.ownBlock = lv.ownBlock ∨ v7.ownBlock = some w6.heap.size) :
    w7.heap[q]? = some (QBox r s lv) ∧ ∃ O', IsQ (w7.setCell ⟨q, 4, none⟩ v7) O' q r { s with L := s.L ++ [f] } ∧ Qs w O (w7.setCell ⟨q, 4, none⟩ v7) O' := by
  have hT : Touch (fun k => lv.ownBlock = some k) w w7 := (hA.mono (fun _ _ c => c.elim)).trans (grown_touch hg)
  have z := hA.size
  obtain ⟨q1, O', h1, h2, h3⟩ := h.set hT (L := s.L ++ [f]) (v2 := v7) (by rw [List.length_append]; exact hr) (fun k hk => by
    rcases ha with c | c
    · exact .inl (by rw [← c]; exact hk)
    · rw [c] at hk
      have e : w6.heap.size = k := by simpa using hk
      exact .inr (by omega))
  exact ⟨q1, O', ⟨_, h1⟩, h2, h3⟩
theorem PQ11.of {w w' : World} {O O' : Nat → Prop} {q r : Nat} {s : F.Po} {v : Value} (h : IsQ w' O' q r s) (hs : Qs w O w' O') : PQ11 w O q r s v (.returned v) w' := ⟨rfl, O', h, hs.1, hs.2⟩
set_option maxRecDepth 100000 in
theorem qdrop_any {w : World} {O : Nat → Prop} {q r : Nat} {s : F.Po} {lv : Value} (h : QAt w O q r s lv) (hl : s.L.length ≤ 10000) (i : Int) (hi : i < (s.L.length : Int)) : Calls Tryz.prog 97 #[Ptr q, .int .i64 i] w (PQ11 w O q r { s with L := F.cutI s.L i } (.tuple #[])) := by
  by_cases h0 : i < 0
  · exact qdrop_no h i h0
  · obtain ⟨k, rfl⟩ : ∃ k : Nat, i = (k : Int) := ⟨i.toNat, by omega⟩
    exact qdrop_yes h hl k (by omega)
end Go.Proofs.YtjlennpoaefllaaGreatDoor
