/- Texts put together: FQ0, FQ1, FQ2, FDrop, FQM, FQ3, FQ4, FQ5, FQ6. -/
import Derived.Test.YtjlennpoaefllaaGreatDoorQ27
import Derived.Test.YtjlennpoaefllaaGreatDoorQ30
import Derived.Test.YtjlennpoaefllaaGreatDoorQ22
import Derived.Maps.AppendAt
import Derived.BigQuiet
import Derived.Test.YtjlennpoaefllaaGreatDoorQ20
import Derived.Deep.MidRow
import Derived.Deep.WholeRow
/- The reference's pool in memory. -/
namespace Go.Proofs.YtjlennpoaefllaaGreatDoor
open Go.RowKit

/-- A frame's cells. -/
def fc (f : F.Fr) : List Value := [.int .i64 f.no, Str f.now, Str f.was, .bool f.fresh, .bool f.dirty]
def fcs (L : List F.Fr) : List Value := L.flatMap fc
theorem fcs_len : ∀ (L : List F.Fr), (fcs L).length = L.length * 5
  | [] => rfl
  | x :: L => by
    have := fcs_len L
    simp only [fcs, List.flatMap_cons, List.length_append, List.length_cons] at this ⊢
    rw [this]; simp [fc]; omega
theorem fcs_get : ∀ (L : List F.Fr) (k : Nat) (hk : k < L.length) (j : Nat), j < 5 → (fcs L)[k * 5 + j]? = (fc L[k])[j]?
  | [], k, hk, _, _ => absurd hk (by simp)
  | x :: L, 0, _, j, hj => by
    simp only [fcs, List.flatMap_cons, Nat.zero_mul, Nat.zero_add, List.getElem_cons_zero]
    rw [List.getElem?_append_left (by simp [fc]; exact hj)]
  | x :: L, k + 1, hk, j, hj => by
    have ih := fcs_get L k (by simpa using hk) j hj
    simp only [fcs, List.flatMap_cons] at ih ⊢
    rw [List.getElem?_append_right (by simp [fc]; omega), show (fc x).length = 5 from rfl, show (k + 1) * 5 + j - 5 = k * 5 + j by omega, ih, List.getElem_cons_succ]
set_option maxRecDepth 100000 in
theorem fcs_app (L K : List F.Fr) : fcs (L ++ K) = fcs L ++ fcs K := by simp [fcs]
set_option maxRecDepth 100000 in
theorem fcs_one (f : F.Fr) : fcs [f] = fc f := by simp [fcs]
set_option maxRecDepth 100000 in
theorem fcs_take (L : List F.Fr) (k : Nat) (h : k ≤ L.length) : (fcs L).take (k * 5) = fcs (L.take k) := by
  have e : fcs L = fcs (L.take k) ++ fcs (L.drop k) := by rw [← fcs_app, List.take_append_drop]
  rw [e, List.take_left' (by rw [fcs_len, List.length_take]; omega)]
set_option maxRecDepth 100000 in
theorem fcs_drop (L : List F.Fr) (k : Nat) (h : k ≤ L.length) : (fcs L).drop (k * 5) = fcs (L.drop k) := by
  have e : fcs L = fcs (L.take k) ++ fcs (L.drop k) := by rw [← fcs_app, List.take_append_drop]
  rw [e, List.drop_left' (by rw [fcs_len, List.length_take]; omega)]
theorem one_fcs (L : List F.Fr) : ∀ u ∈ fcs L, u.oneCell' = true := fun u hu => by
  obtain ⟨f, _, hu⟩ := List.mem_flatMap.1 hu
  simp only [fc, List.mem_cons, List.not_mem_nil, or_false] at hu
  rcases hu with rfl | rfl | rfl | rfl | rfl <;> rfl
set_option maxRecDepth 100000 in
theorem infoFrame : ∃ i, Tryz.prog.info? 136 = some i ∧ i.zero = some (.agg #[.int .i64 0, Str [], Str [], .bool false, .bool false]) ∧ i.size = 5 ∧ i.bytes = 48 := by
  have h : (Tryz.prog.info? 136).map (fun i => (i.zero, i.size, i.bytes)) = some (some (.agg #[.int .i64 0, Str [], Str [], .bool false, .bool false]), 5, 48) := by kernel_rfl
  cases hq : Tryz.prog.info? 136 with
  | none => rw [hq] at h; cases h
  | some i =>
    rw [hq] at h
    simp only [Option.map_some, Option.some.injEq, Prod.mk.injEq] at h
    exact ⟨i, rfl, h.1, h.2.1, h.2.2⟩
/-- The reference's struct. -/
abbrev QBox (r : Nat) (s : F.Po) (lv : Value) : Obj := .cells #[Ptr r, .int .i64 s.fr, .int .i64 s.ct, .int .i64 s.mo, lv] 92 (0, 0)
/-- At q lies the reference's pool on the disk r, in the state s. -/
structure QAt (w : World) (O : Nat → Prop) (q r : Nat) (s : F.Po) (lv : Value) : Prop where
  box : w.heap[q]? = some (QBox r s lv)
  row : w.ownsRow 0 136 5 lv s.L.length (fcs s.L)
  oq : O q
  ol : ∀ k, lv.ownBlock = some k → O k
def IsQ (w : World) (O : Nat → Prop) (q r : Nat) (s : F.Po) : Prop := ∃ lv, QAt w O q r s lv
theorem QAt.touch {w w' : World} {O T : Nat → Prop} {q r : Nat} {s : F.Po} {lv : Value} (h : QAt w O q r s lv) (hT : Touch T w w') (hn : ∀ k, O k → ¬ T k) : QAt w' O q r s lv :=
  ⟨by rw [hT.block q (Array.getElem?_eq_some_iff.1 h.box).1 (hn _ h.oq)]; exact h.box, own_kept h.row hT (fun k hk => hn k (h.ol k hk)), h.oq, h.ol⟩
theorem QAt.adds {w w' : World} {O : Nat → Prop} {q r : Nat} {s : F.Po} {lv : Value} (h : QAt w O q r s lv) (hT : Adds w w') : QAt w' O q r s lv := h.touch hT (fun _ _ => id)
set_option maxRecDepth 100000 in
theorem IsQ.touch {w w' : World} {O T : Nat → Prop} {q r : Nat} {s : F.Po} (h : IsQ w O q r s) (hT : Touch T w w') (hn : ∀ k, O k → ¬ T k) : IsQ w' O q r s := by
  obtain ⟨lv, h⟩ := h
  exact ⟨lv, h.touch hT hn⟩
theorem IsQ.adds {w w' : World} {O : Nat → Prop} {q r : Nat} {s : F.Po} (h : IsQ w O q r s) (hT : Adds w w') : IsQ w' O q r s := h.touch hT (fun _ _ => id)
theorem QAt.mono {w : World} {O O' : Nat → Prop} {q r : Nat} {s : F.Po} {lv : Value} (h : QAt w O q r s lv) (hn : ∀ k, O k → O' k) : QAt w O' q r s lv := ⟨h.box, h.row, hn _ h.oq, fun k hk => hn k (h.ol k hk)⟩
set_option maxRecDepth 100000 in
theorem QAt.ne {w : World} {O : Nat → Prop} {q r : Nat} {s : F.Po} {lv : Value} (h : QAt w O q r s lv) {k : Nat} (hk : lv.ownBlock = some k) : k ≠ q := by
  intro e
  subst e
  obtain ⟨c, hc⟩ := own_type h.row hk
  rw [h.box] at hc
  simp at hc
set_option maxRecDepth 100000 in
/-- Where the frames lie. -/
theorem QAt.at' {w : World} {O : Nat → Prop} {q r : Nat} {s : F.Po} {lv : Value} (h : QAt w O q r s lv) : ∃ ao cap, lv = .slice ao s.L.length cap ∧ s.L.length ≤ cap ∧
    (0 < s.L.length → ∃ g, ao = some ⟨g, 0, none⟩ ∧ lv.ownBlock = some g ∧ (∀ k (hk : k < s.L.length) j, j < 5 → w.cell? ⟨g, k * 5 + j, none⟩ = (fc s.L[k])[j]?) ∧ (∀ i, w.frozen? ⟨g, i, none⟩ = false)) := by
  rcases h.row.2 with ⟨e, hn⟩ | ⟨g, cap, cur, e, _, hgg, hnc, _⟩
  · exact ⟨none, 0, by rw [e, hn], by omega, fun h0 => by omega⟩
  · have hh := h.row
    rw [e] at hh
    refine ⟨some ⟨g, 0, none⟩, cap, e, hnc, fun _ => ⟨g, rfl, by rw [e]; rfl, fun k hk j hj => ?_, fun i => hh.frozenAt i⟩⟩
    rw [hh.cellAt (k * 5 + j) (by omega), fcs_get s.L k hk j hj]
/-- What a call of the reference's pool leaves. -/
def PQ11 (w : World) (O : Nat → Prop) (q r : Nat) (s : F.Po) (v : Value) (e : Ending) (w' : World) : Prop := e = .returned v ∧ Hid (∃ O', IsQ w' O' q r s ∧ Touch O w w' ∧ ∀ k, O' k → O k ∨ (w.heap.size ≤ k ∧ k < w'.heap.size))
theorem PQ11.same {w w' : World} {O : Nat → Prop} {q r : Nat} {s : F.Po} (h : IsQ w O q r s) (hA : Adds w w') (v : Value) : PQ11 w O q r s v (.returned v) w' := ⟨rfl, O, h.adds hA, hA.mono (fun _ _ c => c.elim), fun _ c => .inl c⟩
namespace F
/-- Where a page's frame stands. -/
def idx (L : List Fr) (no : Int) : Int := match L.findIdx? (fun f => decide (f.no = no)) with
  | some i => (i : Int)
  | none => -1
set_option maxRecDepth 100000 in
theorem idx_hit {L : List Fr} {no : Int} {i : Nat} (hi : i < L.length) (h : L[i].no = no) (hb : ∀ j (hj : j < i), (L[j]'(by omega)).no ≠ no) : idx L no = (i : Int) := by
  have : L.findIdx? (fun f => decide (f.no = no)) = some i := by
    rw [List.findIdx?_eq_some_iff_getElem]
    exact ⟨hi, by simp [h], fun j hj => by simpa using hb j hj⟩
  unfold idx
  rw [this]
set_option maxRecDepth 100000 in
theorem idx_miss {L : List Fr} {no : Int} (h : ∀ f ∈ L, f.no ≠ no) : idx L no = -1 := by
  have : L.findIdx? (fun f => decide (f.no = no)) = none := by
    rw [List.findIdx?_eq_none_iff]
    intro f hf
    simpa using h f hf
  unfold idx
  rw [this]
set_option maxRecDepth 100000 in
/-- A page that is held, or not. -/
theorem idx_is (L : List Fr) (no : Int) : (∃ i, ∃ hi : i < L.length, idx L no = (i : Int) ∧ L[i].no = no ∧ at? L no = some L[i]) ∨ (idx L no = -1 ∧ at? L no = none ∧ ∀ f ∈ L, f.no ≠ no) := by
  cases h : L.findIdx? (fun f => decide (f.no = no)) with
  | some i =>
    obtain ⟨hi, h1, h2⟩ := List.findIdx?_eq_some_iff_getElem.1 h
    refine .inl ⟨i, hi, by unfold idx; rw [h], by simpa using h1, ?_⟩
    unfold at?
    rw [List.find?_eq_some_iff_getElem]
    exact ⟨h1, i, hi, rfl, fun j hj => by simpa using h2 j hj⟩
  | none =>
    have h1 := List.findIdx?_eq_none_iff.1 h
    have h2 : ∀ f ∈ L, f.no ≠ no := fun f hf => by simpa using h1 f hf
    refine .inr ⟨by unfold idx; rw [h], ?_, h2⟩
    unfold at?
    rw [List.find?_eq_none]
    intro f hf
    simpa using h2 f hf
/-- Which frame is given up: -1, none has to be; -2, none can be. -/
def outI (s : Po) : Int := if (s.L.length : Int) < s.mo then -1 else match s.L.findIdx? clean with
  | some i => (i : Int)
  | none => -2
/-- A frame is taken away. -/
def cutI (L : List Fr) (i : Int) : List Fr := if 0 ≤ i then L.take i.toNat ++ L.drop (i.toNat + 1) else L
end F
end Go.Proofs.YtjlennpoaefllaaGreatDoor

/- The reference's calls find, out and drop. -/
namespace Go.Proofs.YtjlennpoaefllaaGreatDoor
open Go.RowKit

set_option maxRecDepth 100000 in
set_option maxHeartbeats 2000000 in
theorem qfind_any {w : World} {O : Nat → Prop} {q r : Nat} {s : F.Po} {lv : Value} (h : QAt w O q r s lv) (no : Int) (hl : s.L.length ≤ 10000) : Calls Tryz.prog 84 #[Ptr q, .int .i64 no] w (Tells (.int .i64 (F.idx s.L no)) w) := by
  have c4 : w.cell? ⟨q, 4, none⟩ = some lv := cellOf h.box 4
  obtain ⟨ao, cap, rfl, hcap, hat⟩ := h.at'
  have HAt := hid hat
  have HM := hid (fun h => @F.idx_miss s.L no h)
  have HH := hid (fun i hi h hb => @F.idx_hit s.L no i hi h hb)
  clear h hat
  obtain ⟨n, hn⟩ : ∃ n, n = s.L.length := ⟨_, rfl⟩
  have HN := hid hn
  rw [← hn] at c4 hl hcap
  obtain ⟨z, hz⟩ : ∃ z, z = F.idx s.L no := ⟨_, rfl⟩
  have HZ := hid hz
  rw [← hz]
  clear hz hn
  unfold Ptr
  go_enter Tryz.func84, Tryz.ntmps84
  go_wp2_with fail
  go_loopw [5] (fun iv wr => ∃ i : Nat, iv = .int .i64 (i : Int) ∧ i ≤ n ∧ wr = w ∧ Hid (∀ j (hj : j < s.L.length), j < i → (s.L[j]).no ≠ no)) (fun iv _ => n - (intOf iv).toNat)
  case atStart => exact ⟨0, rfl, Nat.zero_le _, rfl, fun j _ hj => by omega⟩
  case round =>
    obtain ⟨i, rfl, hi, rfl, HB⟩ := hrel
    by_cases hlt : i < n
    · have hltz : (i : Int) < (n : Int) := by omega
      have hi' : i < s.L.length := by rw [← HN.out]; exact hlt
      obtain ⟨g, ea, _, hc, _⟩ := HAt.out (by omega)
      subst ea
      have e0 : wr.cell? ⟨g, i * 5, none⟩ = some (.int .i64 (s.L[i]).no) := hc i hi' 0 (by omega)
      obtain ⟨k, hk⟩ : ∃ k, k = (s.L[i]).no := ⟨_, rfl⟩
      rw [← hk] at e0
      have HK := hid hk
      clear hc hk
      by_cases hq : k = no
      · subst hq
        have hqq : (k == k) = true := by simp
        go_wp2_with fail
        go_ret
        exact ⟨by rw [HZ.out, HH.out i hi' HK.out.symm (fun j hj => HB.out j (by omega) hj)]; rfl, rfl⟩
      · have hqq : (k == no) = false := by simpa using hq
        go_wp2_with fail
        go_roundw
        case rel =>
          refine ⟨i + 1, by go_num, by omega, trivial, fun j hj hji => ?_⟩
          by_cases e : j = i
          · subst e; rw [← HK.out]; exact hq
          · exact HB.out j hj (by omega)
        case measure => simp [intOf]; omega
    · have hltz : ¬ (i : Int) < (n : Int) := by omega
      go_wp2_with fail
      go_ret
      have e : z = -1 := by
        rw [HZ.out]
        refine HM.out (fun f hf => ?_)
        obtain ⟨j, hj, rfl⟩ := List.mem_iff_getElem.1 hf
        exact HB.out j hj (by have := HN.out; omega)
      rw [e]
      exact ⟨rfl, rfl⟩
set_option maxRecDepth 100000 in
set_option maxHeartbeats 2000000 in
theorem qout_any {w : World} {O : Nat → Prop} {q r : Nat} {s : F.Po} {lv : Value} (h : QAt w O q r s lv) (hl : s.L.length ≤ 10000) : Calls Tryz.prog 96 #[Ptr q] w (Adding (.int .i64 (F.outI s)) w) := by
  have c3 : w.cell? ⟨q, 3, none⟩ = some (.int .i64 s.mo) := cellOf h.box 3
  have c4 : w.cell? ⟨q, 4, none⟩ = some lv := cellOf h.box 4
  have HB0 := hid h
  obtain ⟨ao, cap, rfl, hcap, hat⟩ := h.at'
  have HE : Hid (F.outI s = if (s.L.length : Int) < s.mo then -1 else match s.L.findIdx? F.clean with
    | some i => (i : Int)
    | none => -2) := rfl
  clear h hat
  obtain ⟨n, hn⟩ : ∃ n, n = s.L.length := ⟨_, rfl⟩
  have HN := hid hn
  rw [← hn] at c4 hl hcap HE
  obtain ⟨z, hz⟩ : ∃ z, z = F.outI s := ⟨_, rfl⟩
  have HZ := hid hz
  rw [← hz]
  clear hz hn
  unfold Ptr
  by_cases hm : (n : Int) < s.mo
  · have e : z = -1 := by rw [HZ.out, HE.out, if_pos hm]
    rw [e]
    have hd : decide ((n : Int) < s.mo) = true := decide_eq_true hm
    go_enter Tryz.func96, Tryz.ntmps96
    go_upto_region 1 with fail
    go_quiet (fail)
    go_wp2
    go_ret
    exact ⟨rfl, adds_drewN w _⟩
  · have hd : decide ((n : Int) < s.mo) = false := decide_eq_false hm
    have HE2 := hid (show F.outI s = match s.L.findIdx? F.clean with
      | some i => (i : Int)
      | none => -2 by rw [HE.out, if_neg hm])
    clear HE hm
    go_enter Tryz.func96, Tryz.ntmps96
    go_upto_region 1 with fail
    go_quiet (fail)
    go_wp2
    go_loopw [3] (fun iv wr => ∃ i : Nat, iv = .int .i64 (i : Int) ∧ i ≤ n ∧ Hid (Adds w wr) ∧ Hid (∀ j (hj : j < s.L.length), j < i → F.clean s.L[j] = false)) (fun iv _ => n - (intOf iv).toNat)
    case atStart => exact ⟨0, rfl, Nat.zero_le _, adds_drewN w _, fun j _ hj => by omega⟩
    case round =>
      obtain ⟨i, rfl, hi, HA, HB⟩ := hrel
      have hq := HB0.out.adds HA.out
      have d4 : wr.cell? ⟨q, 4, none⟩ = some (.slice ao n cap) := by have := cellOf hq.box 4; rw [← HN.out] at this; exact this
      by_cases hlt : i < n
      · have hltz : (i : Int) < (n : Int) := by omega
        have hi' : i < s.L.length := by rw [← HN.out]; exact hlt
        obtain ⟨ao', cap', e', _, hat⟩ := hq.at'
        obtain ⟨g, ea, _, hc, _⟩ := hat (by omega)
        cases e'
        subst ea
        have e3 : wr.cell? ⟨g, i * 5 + 3, none⟩ = some (.bool (s.L[i]).fresh) := hc i hi' 3 (by omega)
        have e4 : wr.cell? ⟨g, i * 5 + 4, none⟩ = some (.bool (s.L[i]).dirty) := hc i hi' 4 (by omega)
        have HC : Hid (F.clean s.L[i] = (!(s.L[i]).fresh && !(s.L[i]).dirty)) := rfl
        obtain ⟨f, hf⟩ : ∃ f, f = (s.L[i]).fresh := ⟨_, rfl⟩
        obtain ⟨d, hd⟩ : ∃ d, d = (s.L[i]).dirty := ⟨_, rfl⟩
        rw [← hf] at e3 HC
        rw [← hd] at e4 HC
        clear hq hc hat hf hd
        cases f with
        | true =>
          go_wp2_with fail
          go_roundw
          case rel =>
            refine ⟨i + 1, by go_num, by omega, HA.out, fun j hj hji => ?_⟩
            by_cases e : j = i
            · subst e; rw [HC.out]; rfl
            · exact HB.out j hj (by omega)
          case measure => simp [intOf]; omega
        | false =>
          cases d with
          | true =>
            go_wp2_with fail
            go_roundw
            case rel =>
              refine ⟨i + 1, by go_num, by omega, HA.out, fun j hj hji => ?_⟩
              by_cases e : j = i
              · subst e; rw [HC.out]; rfl
              · exact HB.out j hj (by omega)
            case measure => simp [intOf]; omega
          | false =>
            go_wp2_with fail
            go_ret
            have e : z = (i : Int) := by
              have : s.L.findIdx? F.clean = some i := by
                rw [List.findIdx?_eq_some_iff_getElem]
                exact ⟨hi', by rw [HC.out]; rfl, fun j hj => by simpa using HB.out j (by omega) hj⟩
              rw [HZ.out, HE2.out, this]
            rw [e]
            exact ⟨rfl, HA.out⟩
      · have hltz : ¬ (i : Int) < (n : Int) := by omega
        clear hq
        go_wp2_with fail
        go_ret
        have e : z = -2 := by
          have : s.L.findIdx? F.clean = none := by
            rw [List.findIdx?_eq_none_iff]
            intro f hf
            obtain ⟨j, hj, rfl⟩ := List.mem_iff_getElem.1 hf
            exact HB.out j hj (by have := HN.out; omega)
          rw [HZ.out, HE2.out, this]
        rw [e]
        exact ⟨rfl, HA.out⟩
end Go.Proofs.YtjlennpoaefllaaGreatDoor

/- The reference's frames: one is taken away. -/
namespace Go.Proofs.YtjlennpoaefllaaGreatDoor
open Go.RowKit

set_option maxRecDepth 100000 in
theorem own_low {w : World} {B : Nat} {e : TypeId} {size : Nat} {v : Value} {n : Nat} {xs : List Value} (h : w.ownsRow B e size v n xs) {k : Nat} (hk : v.ownBlock = some k) : B ≤ k ∧ k < w.heap.size := by
  rcases h.2 with ⟨rfl, _⟩ | ⟨g, cap, cur, rfl, hb, hg, _⟩
  · cases hk
  · obtain rfl : g = k := by simpa [Value.ownBlock] using hk
    exact ⟨hb, (Array.getElem?_eq_some_iff.1 hg).1⟩
set_option maxRecDepth 100000 in
theorem own_down {w : World} {B : Nat} {e : TypeId} {size : Nat} {v : Value} {n : Nat} {xs : List Value} (h : w.ownsRow B e size v n xs) : w.ownsRow 0 e size v n xs := by
  refine ⟨h.1, ?_⟩
  rcases h.2 with hq | ⟨g, cap, cur, e1, hb, rest⟩
  · exact .inl hq
  · exact .inr ⟨g, cap, cur, e1, Nat.zero_le _, rest⟩
theorem grown_touch {w w' : World} {v : Value} (hg : w.grownBy w' v.ownBlock) : Touch (fun k => v.ownBlock = some k) w w' := ⟨hg.os, hg.tape, hg.output, hg.size, fun k hk hn => hg.block k hk (fun e => hn e.symm)⟩
set_option maxRecDepth 100000 in
/-- Frames are put behind frames. -/
theorem append_fr {w : World} {ops : Array Oper} {rest : List Oper} {o : Oper} {act : Act} {Q : Exit → Act → World → Prop} (hgd : o.guard = none) (s x : Operand)
    (ho : o.op = .call { callee := .builtin .append, args := #[s, x], argTypes := #[90, 90] }) (B : Nat) (v : Value) (n : Nat) (L : List F.Fr) (hs : act.eval s = v) (hown : w.ownsRow B 136 5 v n (fcs L))
    (ad : Addr) (m c : Nat) (K : List F.Fr) (hm : K.length = m) (hx : act.eval x = .slice (some ad) m c) (hK : ∀ j u, (fcs K)[j]? = some u → w.cell? (ad.add j) = some u) (hlen : n + m ≤ 100000) (hB : B ≤ w.heap.size)
    (h : ∀ v' w', w'.ownsRow B 136 5 v' (n + m) (fcs (L ++ K)) → w.grownBy w' v.ownBlock → (v'.ownBlock = v.ownBlock ∨ v'.ownBlock = some w.heap.size) → wpList Tryz.prog ops Q rest (act.put o.dst v') w') : wpList Tryz.prog ops Q (o :: rest) act w := by
  obtain ⟨i0, hi, hz0, hz1, hz2⟩ := infoFrame
  refine wpList_append_own_at _ hgd s x 90 ho B 136 i0 _ 5 48 Tryz.underlying90 hi hz0 hz1 hz2 rfl (by decide) v n (fcs L) hs hown ad m c (fcs K) hx (by rw [fcs_len, hm]) hK (one_fcs K) (by unfold maxLen; omega) (by omega) hB (fun v' w' h1 h2 _ h4 => h v' w' (by rw [fcs_app]; exact h1) h2 h4)
set_option maxRecDepth 100000 in
/-- A list of frames is set. -/
theorem QAt.set {w w2 : World} {O : Nat → Prop} {q r : Nat} {s : F.Po} {lv v2 : Value} {L : List F.Fr} (h : QAt w O q r s lv) (hT : Touch (fun k => lv.ownBlock = some k) w w2) (hrow : w2.ownsRow 0 136 5 v2 L.length (fcs L)) (hat : ∀ k, v2.ownBlock = some k → lv.ownBlock = some k ∨ w.heap.size ≤ k) :
    w2.heap[q]? = some (QBox r s lv) ∧ ∃ O', QAt (w2.setCell ⟨q, 4, none⟩ v2) O' q r { s with L := L } v2 ∧ Touch O w (w2.setCell ⟨q, 4, none⟩ v2) ∧ ∀ k, O' k → O k ∨ (w.heap.size ≤ k ∧ k < (w2.setCell ⟨q, 4, none⟩ v2).heap.size) := by
  have hb : w2.heap[q]? = some (QBox r s lv) := by rw [hT.block q (Array.getElem?_eq_some_iff.1 h.box).1 (fun e => h.ne e rfl)]; exact h.box
  have hT2 : Touch (fun k => k = q) w2 (w2.setCell ⟨q, 4, none⟩ v2) := Touch.setCell (T := fun k => k = q) (Touch.refl _ w2) (p := ⟨q, 4, none⟩) (fun _ => rfl) _
  refine ⟨hb, fun k => O k ∨ v2.ownBlock = some k, ⟨heap_setCell_same w2 q 4 _ 92 _ hb, own_kept hrow hT2 (fun k hk e => ?_), .inl h.oq, fun k hk => .inr hk⟩, ?_, fun k c => ?_⟩
  · subst e
    obtain ⟨c, hc⟩ := own_type hrow hk
    rw [hb] at hc
    simp at hc
  · exact (hT.mono (fun k _ e => h.ol k e)).trans (hT2.mono (fun k _ e => by rw [e]; exact h.oq))
  · rcases c with c | c
    · exact .inl c
    · rcases hat k c with c' | c'
      · exact .inl (h.ol k c')
      · exact .inr ⟨c', Nat.lt_of_lt_of_le (own_low hrow c).2 hT2.size⟩
set_option maxRecDepth 100000 in
theorem sizeFrame (w : World) : (sizeOf 136).run Tryz.prog w = .ok 5 w := by kernel_rfl
set_option maxRecDepth 100000 in
theorem elemFrame : Tryz.prog.elem 90 = 136 := by kernel_rfl
set_option maxRecDepth 100000 in
theorem run_preQ (g len cap n : Nat) (hn : n ≤ cap) (w : World) : (Instr.sliceAt 90 (.slice (some ⟨g, 0, none⟩) len cap) none (some (.int .i64 (n : Int))) none).run Tryz.prog w = .ok (.slice (some ⟨g, 0, none⟩) n cap) w := by
  rw [run_sliceAt_slice w 90 _ _ _ _ Tryz.underlying90, run_slice_h w 90 _ len cap Tryz.underlying90 .i64 n (by omega) (by omega)]
  rw [elemFrame, sizeFrame]
  simp only [Result.andThen, sliced, Int.toNat_natCast, Nat.zero_mul, Nat.sub_zero]
  congr 2
  split
  · rfl
  · rfl
def sufQ (g cap n : Nat) : Addr := if cap = n then ⟨g, 0, none⟩ else ⟨g, n * 5, none⟩
set_option maxRecDepth 100000 in
theorem run_sufQ (g len cap n : Nat) (hn : n ≤ len) (w : World) : (Instr.sliceAt 90 (.slice (some ⟨g, 0, none⟩) len cap) (some (.int .i64 (n : Int))) none none).run Tryz.prog w = .ok (.slice (some (sufQ g cap n)) (len - n) (cap - n)) w := by
  rw [run_sliceAt_slice w 90 _ _ _ _ Tryz.underlying90, run_slice_l w 90 _ len cap Tryz.underlying90 .i64 n (by omega) (by omega)]
  rw [elemFrame, sizeFrame]
  simp only [Result.andThen, sliced, Int.toNat_natCast]
  unfold sufQ
  split
  · rfl
  · simp [Addr.add]
    omega
set_option maxRecDepth 100000 in
set_option maxHeartbeats 2000000 in
theorem qdrop_no {w : World} {O : Nat → Prop} {q r : Nat} {s : F.Po} {lv : Value} (h : QAt w O q r s lv) (i : Int) (hi : i < 0) : Calls Tryz.prog 97 #[Ptr q, .int .i64 i] w (PQ11 w O q r { s with L := F.cutI s.L i } (.tuple #[])) := by
  have e : ({ s with L := F.cutI s.L i } : F.Po) = s := by unfold F.cutI; rw [if_neg (by omega)]
  rw [e]
  have HQ := hid (PQ11.same (show IsQ w O q r s from ⟨lv, h⟩) (Touch.refl _ w) (.tuple #[]))
  have hd : decide ((0 : Int) ≤ i) = false := by simp; omega
  clear h e
  go_enter Tryz.func97, Tryz.ntmps97
  go_wp2_with fail
  go_end0
  exact HQ.out
set_option maxRecDepth 100000 in
set_option maxHeartbeats 2000000 in
theorem qdrop_yes {w : World} {O : Nat → Prop} {q r : Nat} {s : F.Po} {lv : Value} (h : QAt w O q r s lv) (hl : s.L.length ≤ 10000) (i : Nat) (hi : i < s.L.length) : Calls Tryz.prog 97 #[Ptr q, .int .i64 (i : Int)] w (PQ11 w O q r { s with L := F.cutI s.L (i : Int) } (.tuple #[])) := by
  have e : F.cutI s.L (i : Int) = s.L.take i ++ s.L.drop (i + 1) := by unfold F.cutI; rw [if_pos (by omega), Int.toNat_natCast]
  rw [e]
  clear e
  obtain ⟨ao, cap, rfl, hcap, hat⟩ := h.at'
  obtain ⟨g, rfl, hown, hc, _⟩ := hat (by omega)
  have c4 : w.cell? ⟨q, 4, none⟩ = some (.slice (some ⟨g, 0, none⟩) s.L.length cap) := cellOf h.box 4
  have cA4 : ∀ o, (w.alloc o).cell? ⟨q, 4, none⟩ = some (.slice (some ⟨g, 0, none⟩) s.L.length cap) := fun o => below_adds ((Touch.refl _ w).alloc o) c4
  have HQ := hid h
  have HC := hid (fun j u (hu : (fcs s.L)[j]? = some u) => show w.cell? ⟨g, j, none⟩ = some u by
    have hj := (List.getElem?_eq_some_iff.1 hu).1
    rw [fcs_len] at hj
    have e1 : j = (j / 5) * 5 + j % 5 := by omega
    have q1 := hc (j / 5) (by omega) (j % 5) (by omega)
    rw [← fcs_get s.L (j / 5) (by omega) (j % 5) (by omega), ← e1, hu] at q1
    exact q1)
  have HL := hid (And.intro hl hi)
  obtain ⟨n, hn⟩ : ∃ n, n = s.L.length := ⟨_, rfl⟩
  have HN := hid hn
  rw [← hn] at c4 cA4 hcap hl hi
  have hi0 : decide ((0 : Int) ≤ (i : Int)) = true := by simp
  have hs1 := run_preQ g n cap i (by omega)
  have hs2 := run_sufQ g n cap (i + 1) (by omega)
  have hw1 : wrap64 ((i : Int) + 1) = (i : Int) + 1 := by simp [wrap64]; omega
  have hwi : (i : Int) + 1 = ((i + 1 : Nat) : Int) := by omega
  rw [← hwi] at hs2
  have HR1 := hid (show (w.alloc (.cells #[] 136)).ownsRow w.heap.size 136 5 (.slice (some ⟨w.heap.size, 0, none⟩) 0 0) 0 (fcs []) from World.ownsRow_lit (base := w.heap.size) (e := 136) (size := 5) w #[] 0 (Nat.le_refl _) (by decide) rfl)
  have HT1 := hid (show (s.L.take i).length = i by rw [List.length_take]; have := HN.out; omega)
  have HT2 := hid (show (s.L.drop (i + 1)).length = n - (i + 1) by rw [List.length_drop, ← HN.out])
  have HB1 := hid (show w.heap.size ≤ (w.alloc (.cells #[] 136)).heap.size by simp)
  have HK1 := hid (show ∀ j u, (fcs (s.L.take i))[j]? = some u → (w.alloc (.cells #[] 136)).cell? ((⟨g, 0, none⟩ : Addr).add j) = some u from fun j u hu => by
    rw [Addr.add_mid, Nat.zero_add]
    refine below_adds ((Touch.refl _ w).alloc _) (HC.out j u ?_)
    rw [← fcs_take s.L i (by have := HN.out; omega), List.getElem?_take] at hu
    split at hu
    · exact hu
    · cases hu)
  have HK2 := hid (show ∀ w2, Adds w w2 → ∀ j u, (fcs (s.L.drop (i + 1)))[j]? = some u → w2.cell? ((sufQ g cap (i + 1)).add j) = some u from fun w2 hA j u hu => by
    have hj := (List.getElem?_eq_some_iff.1 hu).1
    rw [fcs_len, List.length_drop] at hj
    have hne : cap ≠ i + 1 := by have := HN.out; omega
    unfold sufQ
    rw [if_neg hne, Addr.add_mid]
    refine below_adds hA (HC.out _ u ?_)
    rw [← fcs_drop s.L (i + 1) (by have := HN.out; omega), List.getElem?_drop] at hu
    exact hu)
  have HA2 := hid (show ∀ v2 w2, (w.alloc (.cells #[] 136)).grownBy w2 (Value.slice (some ⟨w.heap.size, 0, none⟩) 0 0).ownBlock → w2.ownsRow w.heap.size 136 5 v2 (0 + i) (fcs ([] ++ s.L.take i)) → Adds w w2 ∧ w2.ownsRow w.heap.size 136 5 v2 i (fcs (s.L.take i)) from fun v2 w2 hg hr => by
    refine ⟨((Touch.refl (fun _ => False) w).alloc _).then (grown_touch hg) (fun k hk c => ?_), by rw [Nat.zero_add, List.nil_append] at hr; exact hr⟩
    have e : w.heap.size = k := by simpa [Value.ownBlock] using c
    omega)
  have HA3 := hid (show ∀ v2 w2 v3 w3, Adds w w2 → w2.ownsRow w.heap.size 136 5 v2 i (fcs (s.L.take i)) → w2.grownBy w3 v2.ownBlock → w3.ownsRow w.heap.size 136 5 v3 (i + (n - (i + 1))) (fcs (s.L.take i ++ s.L.drop (i + 1))) → (∃ ga gc, v3 = .slice ga (i + (n - (i + 1))) gc) ∧ w3.heap[q]? = some (QBox r s (.slice (some ⟨g, 0, none⟩) s.L.length cap)) ∧ PQ11 w O q r { s with L := s.L.take i ++ s.L.drop (i + 1) } (.tuple #[]) (.returned (.tuple #[])) (w3.setCell ⟨q, 4, none⟩ v3) from fun v2 w2 v3 w3 hA hr hg hr3 => by
    have hA3 : Adds w w3 := hA.then (grown_touch hg) (fun k hk c => by have := (own_low hr c).1; omega)
    obtain ⟨q1, O', h1, h2, h3⟩ := HQ.out.set (hA3.mono (fun _ _ c => c.elim)) (L := s.L.take i ++ s.L.drop (i + 1)) (v2 := v3) (by
      rw [show (s.L.take i ++ s.L.drop (i + 1)).length = i + (n - (i + 1)) by rw [List.length_append, HT1.out, HT2.out]]
      exact own_down hr3) (fun k hk => .inr (own_low hr3 hk).1)
    refine ⟨?_, q1, rfl, O', ⟨_, h1⟩, h2, h3⟩
    rcases hr3.2 with ⟨e, e0⟩ | ⟨g3, cap3, _, e, _⟩
    · exact ⟨none, 0, by rw [e, e0]⟩
    · exact ⟨_, _, e⟩)
  unfold Ptr at *
  clear h hat hc hn hown hwi
  go_enter Tryz.func97, Tryz.ntmps97
  go_upto_region 2 with (first
    | (at_builtin; refine append_fr rfl _ _ rfl w.heap.size (.slice (some ⟨w.heap.size, 0, none⟩) 0 0) 0 [] rfl HR1.out ⟨g, 0, none⟩ i cap (s.L.take i) HT1.out rfl HK1.out (by omega) HB1.out ?_; intro v2 w2 hr2 hg2 ha2; have H2 := hid (HA2.out v2 w2 hg2 hr2); clear hr2 hg2 ha2))
  have d4 : w2.cell? ⟨q, 4, none⟩ = some (.slice (some ⟨g, 0, none⟩) n cap) := below_adds H2.out.1 c4
  go_wp2_with (first
    | (at_builtin; refine append_fr rfl _ _ rfl w.heap.size v2 i (s.L.take i) rfl H2.out.2 (sufQ g cap (i + 1)) (n - (i + 1)) (cap - (i + 1)) (s.L.drop (i + 1)) HT2.out rfl (HK2.out w2 H2.out.1) (by omega) H2.out.1.size ?_; intro v3 w3 hr3 hg3 ha3; obtain ⟨⟨ga, gc, e3⟩, hb3, hp3⟩ := HA3.out v2 w2 v3 w3 H2.out.1 H2.out.2 hg3 hr3; subst e3; have d5 := cellOf hb3 4; have f5 := frozen_of_row w3 q 4 _ 92 hb3; have H3 := hid hp3; clear hr3 hg3 ha3 hb3 hp3))
  go_end0
  exact H3.out
end Go.Proofs.YtjlennpoaefllaaGreatDoor

/- The pool's call Drop. -/
namespace Go.Proofs.YtjlennpoaefllaaGreatDoor
open Go.RowKit

namespace F
set_option maxRecDepth 100000 in
theorem drp_no (f : Fr) : (drp f).no = f.no := by unfold drp; split <;> rfl
/-- Of frames whose pages are among ns, those that were dirty are that again, the others are gone. -/
def drL (ns : List Int) (L : List Fr) : List Fr := (L.filter fun f => !(ns.contains f.no) || f.dirty).map fun f => if ns.contains f.no then drp f else f
def drS (s : Po) (ns : List Int) : Po := { s with L := drL ns s.L }
set_option maxRecDepth 100000 in
theorem drL_nil (L : List Fr) : drL [] L = L := by
  induction L with
  | nil => rfl
  | cons f L ih => unfold drL at ih ⊢; rw [List.filter_cons]; simp at ih ⊢
set_option maxRecDepth 100000 in
theorem drL_cons (ns : List Int) (f : Fr) (L : List Fr) : drL ns (f :: L) = if ns.contains f.no then (if f.dirty then drp f :: drL ns L else drL ns L) else f :: drL ns L := by
  unfold drL
  rw [List.filter_cons]
  cases h : ns.contains f.no <;> cases hd : f.dirty <;> simp only [h, Bool.not_false, Bool.not_true, Bool.true_or, Bool.false_or, if_true, if_false, Bool.false_eq_true, List.map_cons]
set_option maxRecDepth 100000 in
theorem not_more {ns : List Int} {z x : Int} (h : x ≠ z) : (ns ++ [z]).contains x = ns.contains x := by
  simp [h]
set_option maxRecDepth 100000 in
theorem drL_keep {ns : List Int} {z : Int} (hz : ¬ z ∈ ns) : ∀ {L : List Fr}, (∀ f ∈ L, f.no = z → f.dirty = true) → (drL ns L).map (fun f => if f.no = z then drp f else f) = drL (ns ++ [z]) L
  | [], _ => rfl
  | f :: L, h => by
    have ih := drL_keep hz (L := L) (fun g hg => h g (List.mem_cons_of_mem _ hg))
    rw [drL_cons, drL_cons]
    by_cases e : f.no = z
    · have h1 : ns.contains f.no = false := by rw [e]; simpa using hz
      have h2 : (ns ++ [z]).contains f.no = true := by rw [e]; simp
      have h3 := h f List.mem_cons_self e
      rw [h1, h2, h3]
      simp only [Bool.false_eq_true, if_false, if_true, List.map_cons]
      rw [ih, if_pos e]
    · rw [not_more e]
      cases h1 : ns.contains f.no with
      | false =>
        simp only [Bool.false_eq_true, if_false, List.map_cons]
        rw [ih, if_neg e]
      | true =>
        cases h3 : f.dirty with
        | false => simp only [Bool.false_eq_true, if_false, if_true]; exact ih
        | true =>
          simp only [if_true, List.map_cons]
          rw [ih, drp_no, if_neg e]
set_option maxRecDepth 100000 in
theorem drL_gone {ns : List Int} {z : Int} (hz : ¬ z ∈ ns) : ∀ {L : List Fr}, (∀ f ∈ L, f.no = z → f.dirty = false) → sansF (drL ns L) z = drL (ns ++ [z]) L
  | [], _ => rfl
  | f :: L, h => by
    have ih := drL_gone hz (L := L) (fun g hg => h g (List.mem_cons_of_mem _ hg))
    unfold sansF at ih ⊢
    rw [drL_cons, drL_cons]
    by_cases e : f.no = z
    · have h1 : ns.contains f.no = false := by rw [e]; simpa using hz
      have h2 : (ns ++ [z]).contains f.no = true := by rw [e]; simp
      have h3 := h f List.mem_cons_self e
      rw [h1, h2, h3]
      simp only [Bool.false_eq_true, if_false, if_true, List.filter_cons]
      rw [if_neg (by simp [e]), ih]
    · rw [not_more e]
      cases h1 : ns.contains f.no with
      | false =>
        simp only [Bool.false_eq_true, if_false, List.filter_cons]
        rw [if_pos (by simp [e]), ih]
      | true =>
        cases h3 : f.dirty with
        | false => simp only [Bool.false_eq_true, if_false, if_true]; exact ih
        | true =>
          simp only [if_true, List.filter_cons]
          rw [drp_no, if_pos (by simp [e]), ih]
/-- All that are fresh. -/
theorem drL_all {ns : List Int} : ∀ {L : List Fr}, (∀ f ∈ L, ns.contains f.no = f.fresh) → drL ns L = (L.filter kept).map drp
  | [], _ => rfl
  | f :: L, h => by
    have ih := drL_all (L := L) (fun g hg => h g (List.mem_cons_of_mem _ hg))
    rw [drL_cons, h f List.mem_cons_self, ih, List.filter_cons]
    unfold kept
    cases h1 : f.fresh <;> cases h2 : f.dirty <;> simp [drp, h1]
set_option maxRecDepth 100000 in
theorem nodup_same {L : List Fr} (hn : (L.map (·.no)).Nodup) {f g : Fr} (hf : f ∈ L) (hg : g ∈ L) (e : f.no = g.no) : f = g := by
  rw [List.nodup_iff_pairwise_ne, List.pairwise_map] at hn
  refine Classical.byContradiction fun hne => ?_
  obtain ⟨i, hi, rfl⟩ := List.mem_iff_getElem.1 hf
  obtain ⟨j, hj, rfl⟩ := List.mem_iff_getElem.1 hg
  have hij : i ≠ j := fun e => hne (by subst e; rfl)
  rcases Nat.lt_or_gt_of_ne hij with q | q
  · exact (List.pairwise_iff_getElem.1 hn i j hi hj q) e
  · exact (List.pairwise_iff_getElem.1 hn j i hj hi q) e.symm
set_option maxRecDepth 100000 in
theorem drS_all {s : Po} (hn : (s.L.map (·.no)).Nodup) : drS s (which s isFresh) = dropS s := by
  unfold drS dropS
  rw [drL_all]
  intro f hf
  cases h : f.fresh with
  | true => exact List.contains_iff_mem.2 (mem_which.2 ⟨f, hf, h, rfl⟩)
  | false =>
    have : ¬ f.no ∈ which s isFresh := fun c => by
      obtain ⟨g, hg, h1, h2⟩ := mem_which.1 c
      rw [nodup_same hn hg hf h2] at h1
      unfold isFresh at h1
      rw [h] at h1
      cases h1
    simpa using this
set_option maxRecDepth 100000 in
theorem drL_in {ns : List Int} {L : List Fr} {f : Fr} (hf : f ∈ L) (hn : ¬ f.no ∈ ns) : f ∈ drL ns L := by
  unfold drL
  refine List.mem_map.2 ⟨f, List.mem_filter.2 ⟨hf, by simp [hn]⟩, by simp [hn]⟩
end F
set_option maxRecDepth 100000 in
theorem PoolAt.onceF {w : World} {O : Nat → Prop} {p dp : Nat} {s : F.Po} {hb : Nat} {y : Int} {G : List Tk} (h : PoolAt w O p dp s hb y G) : (s.L.map (·.no)).Nodup := by
  have := h.once
  rw [h.L, List.map_map]
  exact this
set_option maxRecDepth 100000 in
/-- The frame of a fresh page that is still to be dropped. -/
theorem dr_new {w : World} {O : Nat → Prop} {p dp : Nat} {s : F.Po} {ns : List Int} {hb : Nat} {y : Int} {G : List Tk} (h : PoolAt w O p dp (F.drS s ns) hb y G) {z : Int} (hz : z ∈ F.which s F.isFresh) (hn : ¬ z ∈ ns) :
    ∃ t ∈ G, t.f.no = z ∧ lk (G.map Tk.pr) z = .pointer (some ⟨t.b, 0, none⟩) ∧ t.f ∈ s.L ∧ t.f.fresh = true := by
  obtain ⟨f, hf, hm, hno⟩ := F.mem_which.1 hz
  have hin : f ∈ (F.drS s ns).L := F.drL_in hf (by rw [hno]; exact hn)
  rw [h.L] at hin
  obtain ⟨t, ht, e⟩ := List.mem_map.1 hin
  have hn' : t.f.no = z := by rw [e, hno]
  refine ⟨t, ht, hn', ?_, by rw [e]; exact hf, by rw [e]; exact hm⟩
  rw [← hn']; exact lk_some h.mp.once (List.mem_map_of_mem (f := Tk.pr) ht)
/-- A frame that is dropped. -/
def Tk.drp (t : Tk) : Tk := { t with f := F.drp t.f }
theorem Tk.drp_is (u : Tk) : u.drp.b = u.b ∧ u.drp.age = u.age ∧ u.drp.f = F.drp u.f ∧ (F.drp u.f).no = u.f.no ∧ u.drp.bl.Sublist u.bl :=
  ⟨rfl, rfl, rfl, F.drp_no _, List.Sublist.refl _⟩
set_option maxRecDepth 100000 in
theorem PoolAt.drop1 {w w' : World} {O : Nat → Prop} {p dp : Nat} {s : F.Po} {hb : Nat} {y : Int} {G : List Tk} (h : PoolAt w O p dp s hb y G) {t : Tk} (ht : t ∈ G) (hf : t.f.fresh = true) (hd : t.f.dirty = true) (hw : w' = ((w.setCell ⟨t.b, 0, none⟩ (.slice (some ⟨t.wg, t.wo, none⟩) 256 t.wc)).setCell ⟨t.b, 1, none⟩ (.int .i64 1)).setCell ⟨t.b, 3, none⟩ (.slice none 0 0)) :
    PoolAt w' O p dp { s with L := s.L.map fun f => if f.no = t.f.no then F.drp f else f } hb y (G.map fun u => if u.f.no = t.f.no then u.drp else u) ∧ Touch (fun k => k = t.b) w w' := by
  have hT : Touch (fun k => k = t.b) w w' := by rw [hw]; exact Touch.setCell (T := fun k => k = t.b) (Touch.setCell (T := fun k => k = t.b) (Touch.setCell (T := fun k => k = t.b) (Touch.refl _ w) (p := ⟨t.b, 0, none⟩) (fun _ => rfl) _) (p := ⟨t.b, 1, none⟩) (fun _ => rfl) _) (p := ⟨t.b, 3, none⟩) (fun _ => rfl) _
  have hbo : t.both = true := by unfold Tk.both; rw [hf, hd]; rfl
  refine ⟨h.upd ht Tk.drp F.drp Tk.drp_is hT ⟨?_, ?_⟩, hT⟩
  · obtain ⟨g, o, c, h1, h2, h3, h4, h5, h6⟩ := (h.at' t ht).now
    have hws := ((h.at' t ht).was hbo).other h1 t.wp_no hT
    have e1 : F.st t.drp.f = 1 := by show F.st (F.drp t.f) = 1; unfold F.drp F.st; simp [hf, hd]
    have e2 : t.drp.wp = .slice none 0 0 := by show (if (F.drp t.f).fresh && (F.drp t.f).dirty then _ else _) = _; unfold F.drp; rw [hf]; rfl
    have e3 : t.drp.f.now = t.f.was := by show (F.drp t.f).now = _; unfold F.drp; rw [hf]; rfl
    rw [e1, e2, e3]
    refine ⟨t.wg, t.wo, t.wc, ?_, h2, hws.own, hws.cap, hws.len, hws.at'⟩
    rw [hw]
    exact heap_setCell_same _ t.b 3 _ 134 _ (heap_setCell_same _ t.b 1 _ 134 _ (heap_setCell_same w t.b 0 _ 134 _ h1))
  · intro e
    have : t.drp.both = false := by show ((F.drp t.f).fresh && (F.drp t.f).dirty) = false; unfold F.drp; rw [hf]; rfl
    rw [this] at e
    cases e
set_option maxRecDepth 100000 in
theorem eql_some (a : Addr) (n c : Nat) (w : World) : (binOp .eql 43 (.slice (some a) n c) (.slice none 0 0)).run Tryz.prog w = .ok (.bool false) w := by kernel_rfl
set_option maxRecDepth 100000 in
theorem eql_none (w : World) : (binOp .eql 43 (.slice none 0 0) (.slice none 0 0)).run Tryz.prog w = .ok (.bool true) w := by kernel_rfl
/-- On the way through what is dropped. -/
structure DWay (w wr : World) (O : Nat → Prop) (p dp : Nat) (s : F.Po) (hb : Nat) (y : Int) (zs : List Int) (v : Value) (i : Nat) : Prop where
  pool : ∃ G, PoolAt wr O p dp (F.drS s (zs.take i)) hb y G
  row : wr.ownsRow w.heap.size 3 1 v zs.length (I zs)
  touch : Touch O w wr
set_option maxRecDepth 100000 in
set_option maxHeartbeats 4000000 in
theorem bdrop_any {w : World} {O : Nat → Prop} {p dp : Nat} {s : F.Po} {n : Nat} (h : IsPool w O p dp s n) (hO : ∀ k, O k → k < w.heap.size) (hlen : s.L.length ≤ 10000) : Calls Tryz.prog 46 #[Ptr p] w (PPut w O p dp (F.dropS s) n ((F.which s F.isFresh).length : Int)) := by
  have HF := hid (bfresh_any h hlen)
  obtain ⟨hb, y, G, h, hy⟩ := h
  obtain ⟨zs, hzs⟩ : ∃ zs, zs = F.which s F.isFresh := ⟨_, rfl⟩
  rw [← hzs] at HF ⊢
  have HZ := hid hzs
  have HN := hid (show zs.Nodup by rw [hzs]; exact which_nodup h _)
  have HNF := hid h.onceF
  have HP := hid h
  have HY := hid hy
  have HO := hid hO
  have HS := hid (show F.drS s zs = F.dropS s by rw [hzs]; exact F.drS_all h.onceF)
  have hlz : zs.length ≤ 10000 := by
    have : zs.length = ((s.L.filter F.isFresh).map (·.no)).length := by rw [hzs]; exact length_rise _
    rw [this, List.length_map]
    exact Nat.le_trans (List.length_filter_le _ _) hlen
  unfold Ptr at *
  clear h hlen hzs hO hy
  go_enter Tryz.func46, Tryz.ntmps46
  go_upto_region 2 with (go_at_call 59; refine HF.out.mono ?_; rintro e w1 ⟨v1, rfl, H1⟩)
  obtain ⟨a1, k1, rfl, hget⟩ := row_get H1.out.1
  have HW : Hid (DWay w w1 O p dp s hb y zs (.slice a1 zs.length k1) 0) := ⟨⟨G, by
    have e : F.drS s (zs.take 0) = s := by rw [List.take_zero]; unfold F.drS; rw [F.drL_nil]
    rw [e]; exact HP.out.adds H1.out.2⟩, H1.out.1, H1.out.2.mono (fun _ _ c => c.elim)⟩
  clear hget
  generalize hzl : zs.length = zl at *
  have HZL := hid hzl
  clear hzl
  go_wp2_with fail
  go_loopw [11] (fun iv wr => ∃ i : Nat, iv = .int .i64 (i : Int) ∧ i ≤ zl ∧ Hid (DWay w wr O p dp s hb y zs (.slice a1 zl k1) i)) (fun iv _ => zl - (intOf iv).toNat)
  case atStart => exact ⟨0, rfl, Nat.zero_le _, HW.out⟩
  case round =>
    obtain ⟨i, rfl, hi, HI⟩ := hrel
    by_cases hlt : i < zl
    · have hltz : (i : Int) < (zl : Int) := by omega
      have hlt' : i < zs.length := by rw [HZL.out]; exact hlt
      obtain ⟨G1, hG1⟩ := HI.out.pool
      have hrow := HI.out.row
      obtain ⟨a2, k2, e2, hget⟩ := row_get hrow
      obtain ⟨b, o, ea, hbo, hc⟩ := hget i hlt'
      rw [HZL.out] at e2
      cases e2
      subst ea
      have hzn := not_take HN.out hlt'
      obtain ⟨t, htG, htn, hlk, htL, htm⟩ := dr_new hG1 (z := zs[i]) (by rw [← HZ.out]; exact List.getElem_mem hlt') hzn
      have hsame : ∀ f ∈ s.L, f.no = zs[i] → f.dirty = t.f.dirty := fun f hf e => by rw [F.nodup_same HNF.out hf htL (by rw [e, htn])]
      have c4 : wr.cell? ⟨p, 4, none⟩ = some (.map (some hb)) := cellOf hG1.box 4
      have HMP := hid hG1.mp
      have HLK := hid hlk
      obtain ⟨tg, tof, tc, htb, _⟩ := (hG1.at' t htG).now
      have e0 : wr.cell? ⟨t.b, 0, none⟩ = some (.slice (some ⟨tg, tof, none⟩) 256 tc) := cellOf htb 0
      have e1 : wr.cell? ⟨t.b, 1, none⟩ = some (.int .i64 (F.st t.f)) := cellOf htb 1
      have e3 : wr.cell? ⟨t.b, 3, none⟩ = some t.wp := cellOf htb 3
      have f0 : wr.frozen? ⟨t.b, 0, none⟩ = false := frozen_of_row wr t.b 0 _ 134 htb
      have f1 : wr.frozen? ⟨t.b, 1, none⟩ = false := frozen_of_row wr t.b 1 _ 134 htb
      have f3 : wr.frozen? ⟨t.b, 3, none⟩ = false := frozen_of_row wr t.b 3 _ 134 htb
      have HG1 := hid (And.intro hG1 (And.intro htG (And.intro htn htm)))
      obtain ⟨z, hz⟩ : ∃ z, z = zs[i] := ⟨_, rfl⟩
      rw [← hz] at hc HLK HG1 hzn hsame
      have HZI := hid hz
      have HSm := hid (And.intro hsame hzn)
      cases hd : t.f.dirty with
      | true =>
        have hwp : t.wp = .slice (some ⟨t.wg, t.wo, none⟩) 256 t.wc := by unfold Tk.wp Tk.both; rw [htm, hd]; rfl
        rw [hwp] at e3
        have HDd := hid hd
        have heq := eql_some
        have heqn := eql_none
        clear hG1 htG htn hlk htL htm htb hget hrow hz hbo hd hwp hzn hsame
        go_upto_region 6 with (first
          | (at_lookup; refine wpList_lookup_p rfl _ _ 87 rfl 3 131 Tryz.underlying87 Tryz.underlying3 zeroPF hb rfl HMP.out _ rfl ?_; rw [HLK.out])
          | go_in)
        go_wp2_with fail
        go_roundw
        case rel =>
          obtain ⟨q1, q2⟩ := PoolAt.drop1 (w' := ((wr.setCell ⟨t.b, 0, none⟩ (.slice (some ⟨t.wg, t.wo, none⟩) 256 t.wc)).setCell ⟨t.b, 1, none⟩ (.int .i64 1)).setCell ⟨t.b, 3, none⟩ (.slice none 0 0)) HG1.out.1 HG1.out.2.1 HG1.out.2.2.2 HDd.out rfl
          have hOb : O t.b := (HG1.out.1.at' t HG1.out.2.1).now.own
          refine ⟨i + 1, by go_num, by omega, ?_, row_keep HI.out.row q2 (fun k hk e => ?_), HI.out.touch.trans (q2.mono (fun k _ e => by rw [e]; exact hOb))⟩
          · have e9 : F.drS s (zs.take (i + 1)) = { F.drS s (zs.take i) with L := (F.drS s (zs.take i)).L.map fun f => if f.no = t.f.no then F.drp f else f } := by
              rw [take_next' (by rw [HZL.out]; exact hlt)]
              unfold F.drS
              rw [HG1.out.2.2.1, F.drL_keep HSm.out.2 (fun f hf e => by rw [HSm.out.1 f hf e]; exact HDd.out), HZI.out]
            rw [e9]
            exact ⟨_, q1⟩
          · have h1 := (row_low HI.out.row hk).1
            have h2 := HO.out _ hOb
            rw [e] at h1
            omega
        case measure => simp [intOf]; omega
      | false =>
        have hwp : t.wp = .slice none 0 0 := by unfold Tk.wp Tk.both; rw [hd, Bool.and_false]; rfl
        rw [hwp] at e3
        have HDd := hid hd
        have heq := eql_some
        have heqn := eql_none
        clear hG1 htG htn hlk htL htm htb hget hrow hz hbo hd hwp hzn hsame
        go_upto_region 6 with (first
          | (at_lookup; refine wpList_lookup_p rfl _ _ 87 rfl 3 131 Tryz.underlying87 Tryz.underlying3 zeroPF hb rfl HMP.out _ rfl ?_; rw [HLK.out])
          | go_in)
        go_upto_region 7 with fail
        go_wp2_with (first
          | (at_delete; refine wpList_delete_p rfl _ _ 87 3 rfl 131 Tryz.underlying87 Tryz.underlying3 hb rfl HMP.out z rfl ?_; intro w3 hm3 hT3 hs3; have HM3 := hid hm3; have HT3 := hid hT3; clear hm3 hT3 hs3)
          | go_in)
        go_roundw
        case rel =>
          have q1 := HG1.out.1.del z HM3.out HT3.out
          have hOb : O hb := HG1.out.1.oh
          refine ⟨i + 1, by go_num, by omega, ?_, row_keep HI.out.row HT3.out (fun k hk e => ?_), HI.out.touch.trans (HT3.out.mono (fun k _ e => by rw [e]; exact hOb))⟩
          · have e9 : F.drS s (zs.take (i + 1)) = { F.drS s (zs.take i) with L := F.sansF (F.drS s (zs.take i)).L z } := by
              rw [take_next' (by rw [HZL.out]; exact hlt)]
              unfold F.drS
              rw [F.drL_gone HSm.out.2 (fun f hf e => by rw [HSm.out.1 f hf e]; exact HDd.out), HZI.out]
            rw [e9]
            exact ⟨_, q1⟩
          · have h1 := (row_low HI.out.row hk).1
            have h2 := HO.out _ hOb
            rw [e] at h1
            omega
        case measure => simp [intOf]; omega
    · have hltz : ¬ (i : Int) < (zl : Int) := by omega
      obtain rfl : i = zl := by omega
      go_wp2_with fail
      go_ret
      obtain ⟨G1, hG1⟩ := HI.out.pool
      rw [← HZL.out, List.take_length, HS.out] at hG1
      exact ⟨rfl, O, ⟨hb, y, G1, hG1, HY.out⟩, HI.out.touch, fun k hk => .inl hk⟩
end Go.Proofs.YtjlennpoaefllaaGreatDoor

/- The reference's steps and the pool's by definition are the same. -/
namespace Go.Proofs.YtjlennpoaefllaaGreatDoor
open Go.RowKit
namespace F
/-- What was is kept only of a fresh page that was dirty. -/
def Nil (s : Po) : Prop := ∀ f ∈ s.L, (f.fresh && f.dirty) = false → f.was = []
set_option maxRecDepth 100000 in
theorem Nil.held {s : Po} (h : Nil s) {no : Int} {f : Fr} (hf : (f.fresh && f.dirty) = false → f.was = []) : Nil (held s no f) := by
  intro g hg c
  rcases List.mem_append.1 hg with hg | hg
  · exact h g ((out_sub s no).mem ((sansF_sub _ _).mem hg)) c
  · obtain rfl := List.mem_singleton.1 hg
    exact hf c
set_option maxRecDepth 100000 in
theorem Nil.put {s : Po} (h : Nil s) (no : Int) (bs : List UInt8) : Nil (putS s no bs) := by
  unfold putS
  split
  · refine h.held (fun c => ?_)
    show wasB s no = []
    have c' : wasD s no = false := by simpa using c
    unfold wasD at c'
    unfold wasB
    cases ha : at? s.L no with
    | none => rfl
    | some f =>
      rw [ha] at c'
      have c2 : f.dirty = false := c'
      cases hf : f.fresh with
      | true => show (if f.fresh then f.was else if f.dirty then f.now else []) = []; rw [if_pos hf]; exact h f (at_mem ha).1 (by rw [c2, Bool.and_false])
      | false => show (if f.fresh then f.was else if f.dirty then f.now else []) = []; rw [if_neg (by rw [hf]; decide), if_neg (by rw [c2]; decide)]
  · exact h
set_option maxRecDepth 100000 in
theorem Nil.get {s : Po} (h : Nil s) (D : dSt) (no : Int) : Nil (getS s D no) := by
  unfold getS
  split
  · refine h.held (fun c => ?_)
    unfold getF at c ⊢
    cases ha : at? s.L no with
    | none => rfl
    | some f =>
      rw [ha] at c
      exact h f (at_mem ha).1 c
  · exact h
set_option maxRecDepth 100000 in
theorem Nil.acc {s : Po} (h : Nil s) : Nil (accS s) := by
  intro g hg c
  obtain ⟨f, hf, rfl⟩ := List.mem_map.1 hg
  unfold F.acc at c ⊢
  cases hq : f.fresh with
  | true => simp
  | false => simp only [Bool.false_eq_true, if_false]; exact h f hf (by rw [hq]; rfl)
set_option maxRecDepth 100000 in
theorem Nil.drop {s : Po} (h : Nil s) : Nil (dropS s) := by
  intro g hg c
  obtain ⟨f, hf, rfl⟩ := List.mem_map.1 hg
  unfold drp at c ⊢
  cases hq : f.fresh with
  | true => simp
  | false => simp only [Bool.false_eq_true, if_false]; exact h f (List.mem_filter.1 hf).1 (by rw [hq]; rfl)
set_option maxRecDepth 100000 in
theorem Nil.fl {s : Po} (h : Nil s) (D : dSt) : Nil (flS s D) := by
  unfold flS
  split
  · intro g hg c
    obtain ⟨f, hf, rfl⟩ := List.mem_map.1 hg
    unfold cln at c ⊢
    cases hq : f.fresh with
    | true => simp only [if_true]; rw [hq] at c; simp only [if_true] at c; exact h f hf c
    | false => simp only [Bool.false_eq_true, if_false]; exact h f hf (by rw [hq]; rfl)
  · exact h
set_option maxRecDepth 100000 in
theorem Good.drop {s : Po} (h : Good s) : Good (dropS s) := by
  have hm : ∀ g ∈ (dropS s).L, ∃ f ∈ s.L, kept f = true ∧ drp f = g := fun g hg => by
    obtain ⟨f, hf, e⟩ := List.mem_map.1 hg
    exact ⟨f, (List.mem_filter.1 hf).1, (List.mem_filter.1 hf).2, e⟩
  have hsub : ((dropS s).L.map (·.no)).Sublist (s.L.map (·.no)) := by
    show (((s.L.filter kept).map drp).map (·.no)).Sublist _
    rw [List.map_map]
    have e : (s.L.filter kept).map ((·.no) ∘ drp) = (s.L.filter kept).map (·.no) := List.map_congr_left (fun f _ => drp_no f)
    rw [e]
    exact List.filter_sublist.map _
  refine ⟨fun g hg => ?_, fun g hg => ?_, fun g hg h1 _ => ?_, ?_, h.nd.sublist hsub⟩
  · obtain ⟨f, hf, _, rfl⟩ := hm g hg
    rw [drp_no]; exact h.nos f hf
  · obtain ⟨f, hf, hk, rfl⟩ := hm g hg
    rw [drp_no]
    unfold drp
    cases hfr : f.fresh with
    | false => exact h.pgs f hf
    | true => exact h.was f hf hfr (by unfold kept at hk; rw [hfr] at hk; simpa using hk)
  · obtain ⟨f, hf, _, rfl⟩ := hm g hg
    unfold drp at h1
    cases hfr : f.fresh with
    | false => rw [hfr] at h1; simp at h1; rw [hfr] at h1; cases h1
    | true => rw [hfr] at h1; simp at h1
  · have := hsub.length_le
    rw [List.length_map, List.length_map] at this
    have := h.len
    show (((dropS s).L.length : Nat) : Int) ≤ s.mo
    omega
set_option maxRecDepth 100000 in
theorem sans_none {L : List Fr} {no : Int} (h : ∀ f ∈ L, f.no ≠ no) : sansF L no = L := by
  unfold sansF
  rw [List.filter_eq_self]
  intro f hf
  simpa using h f hf
set_option maxRecDepth 100000 in
theorem cut_sans {L : List Fr} (hn : (L.map (·.no)).Nodup) {i : Nat} (hi : i < L.length) : sansF L L[i].no = cutI L (i : Int) := by
  obtain ⟨x, hx⟩ : ∃ x, x = L[i] := ⟨_, rfl⟩
  have e : L = L.take i ++ x :: L.drop (i + 1) := by rw [hx, ← List.drop_eq_getElem_cons hi, List.take_append_drop]
  rw [← hx]
  have hc : cutI L (i : Int) = L.take i ++ L.drop (i + 1) := by unfold cutI; rw [if_pos (by omega), Int.toNat_natCast]
  rw [hc]
  have hn2 : ((L.take i).map (·.no) ++ (x.no :: (L.drop (i + 1)).map (·.no))).Nodup := by
    have q := hn
    rw [e, List.map_append, List.map_cons] at q
    exact q
  obtain ⟨_, h2, h3⟩ := List.nodup_append.1 hn2
  obtain ⟨h4, _⟩ := List.nodup_cons.1 h2
  have e2 : sansF L x.no = sansF (L.take i) x.no ++ sansF (x :: L.drop (i + 1)) x.no := by
    unfold sansF
    rw [← List.filter_append, ← e]
  rw [e2, sans_none (fun f hf c => h3 _ (List.mem_map.2 ⟨f, hf, rfl⟩) _ List.mem_cons_self c)]
  congr 1
  have e3 : sansF (x :: L.drop (i + 1)) x.no = sansF (L.drop (i + 1)) x.no := by unfold sansF; rw [List.filter_cons]; simp
  rw [e3, sans_none (fun f hf c => h4 (List.mem_map.2 ⟨f, hf, c⟩))]
set_option maxRecDepth 100000 in
/-- A page that is held is the youngest. -/
theorem held_idx {s : Po} (hg : Good s) {no : Int} {i : Nat} (hi : i < s.L.length) (hn : s.L[i].no = no) (ha : at? s.L no = some s.L[i]) (f : Fr) : held s no f = { s with L := cutI s.L (i : Int) ++ [f] } := by
  have ho : out s no = s.L := by unfold out; rw [(need_at ha).1]; rfl
  unfold held
  rw [ho, ← cut_sans hg.nd hi, hn]
set_option maxRecDepth 100000 in
/-- Which frame is given up for a page that is not held. -/
theorem out_is {s : Po} (hg : Good s) {no : Int} (ha : at? s.L no = none) (hno : ∀ f ∈ s.L, f.no ≠ no) : (outI s = -2 ∧ room s no = false) ∨ (∃ j : Int, outI s = j ∧ j ≠ -2 ∧ j < (s.L.length : Int) ∧ room s no = true ∧ ∀ f, held s no f = { s with L := cutI s.L j ++ [f] }) := by
  by_cases hlt : (s.L.length : Int) < s.mo
  · have hn : need s no = false := by unfold need; rw [ha]; simp; omega
    have ho : out s no = s.L := by unfold out; rw [hn]; rfl
    refine .inr ⟨-1, by unfold outI; rw [if_pos hlt], by decide, by omega, by unfold room; rw [hn]; rfl, fun f => ?_⟩
    unfold held
    rw [ho, sans_none hno]
    unfold cutI
    rw [if_neg (by decide)]
  · have hn : need s no = true := by unfold need; rw [ha]; simp; omega
    cases hf : s.L.findIdx? clean with
    | none =>
      have hold : old s.L = none := by
        unfold old
        rw [List.find?_eq_none]
        intro f hf'
        rw [List.findIdx?_eq_none_iff.1 hf f hf']
        decide
      refine .inl ⟨by unfold outI; rw [if_neg hlt, hf], ?_⟩
      unfold room
      rw [hn, hold]
      rfl
    | some i =>
      obtain ⟨hi, h1, h2⟩ := List.findIdx?_eq_some_iff_getElem.1 hf
      have hold : old s.L = some s.L[i] := by
        unfold old
        rw [List.find?_eq_some_iff_getElem]
        exact ⟨h1, i, hi, rfl, fun j hj => by simpa using h2 j hj⟩
      refine .inr ⟨(i : Int), by unfold outI; rw [if_neg hlt, hf], by omega, by omega, by unfold room; rw [hn, hold]; rfl, fun f => ?_⟩
      have ho : out s no = cutI s.L (i : Int) := by unfold out; rw [hn, hold]; exact cut_sans hg.nd hi
      unfold held
      rw [ho, sans_none (fun g hg' => ?_)]
      have : g ∈ s.L := by
        unfold cutI at hg'
        rw [if_pos (by omega)] at hg'
        rcases List.mem_append.1 hg' with c | c
        · exact List.mem_of_mem_take c
        · exact List.mem_of_mem_drop c
      exact hno g this
set_option maxRecDepth 100000 in
theorem cut_len (L : List Fr) (i : Int) : (cutI L i).length ≤ L.length := by
  unfold cutI
  split
  · rw [List.length_append, List.length_take, List.length_drop]; omega
  · exact Nat.le_refl _
/-- The numbers of pages, as the reference tells them. -/
def isAt (s : Po) (m : Fr → Bool) (z : Int) : Bool := match at? s.L z with
  | some f => m f
  | none => false
def numsTo (s : Po) (m : Fr → Bool) (n : Nat) : List Int := ((List.range n).map (fun k : Nat => (k : Int))).filter (isAt s m)
set_option maxRecDepth 100000 in
theorem nums_next (s : Po) (m : Fr → Bool) (n : Nat) : numsTo s m (n + 1) = if isAt s m (n : Int) = true then numsTo s m n ++ [(n : Int)] else numsTo s m n := by
  unfold numsTo
  rw [List.range_succ, List.map_append, List.filter_append, List.map_cons, List.map_nil, List.filter_cons, List.filter_nil]
  split
  · rfl
  · rw [List.append_nil]
set_option maxRecDepth 100000 in
theorem nums_which {s : Po} (hg : Good s) (m : Fr → Bool) {n : Nat} (hn : (n : Int) = s.ct) : numsTo s m n = which s m := by
  symm
  unfold which
  refine rise_eq ?_ ?_
  · refine (List.perm_ext_iff_of_nodup ?_ ?_).2 (fun z => ?_)
    · unfold numsTo
      refine List.Nodup.sublist List.filter_sublist ?_
      rw [List.nodup_iff_pairwise_ne, List.pairwise_map]
      exact (List.nodup_iff_pairwise_ne.1 List.nodup_range).imp (fun h => by omega)
    · exact hg.nd.sublist (List.filter_sublist.map _)
    · unfold numsTo
      rw [List.mem_filter, List.mem_map, List.mem_map]
      constructor
      · rintro ⟨_, h⟩
        unfold isAt at h
        cases ha : at? s.L z with
        | none => rw [ha] at h; cases h
        | some f =>
          rw [ha] at h
          exact ⟨f, List.mem_filter.2 ⟨(at_mem ha).1, h⟩, (at_mem ha).2⟩
      · rintro ⟨f, hf, rfl⟩
        obtain ⟨hf, hm⟩ := List.mem_filter.1 hf
        have hb := hg.nos f hf
        refine ⟨⟨f.no.toNat, List.mem_range.2 (by omega), by omega⟩, ?_⟩
        unfold isAt
        cases ha : at? s.L f.no with
        | none => exact absurd (List.find?_eq_none.1 ha f hf) (by simp)
        | some g =>
          rw [nodup_same hg.nd (at_mem ha).1 hf (at_mem ha).2]
          exact hm
  · unfold numsTo
    refine List.Pairwise.filter _ ?_
    rw [List.pairwise_map]
    exact (List.pairwise_lt_range (n := n)).imp (fun h => by omega)
set_option maxRecDepth 100000 in
theorem nums_len (s : Po) (m : Fr → Bool) (n : Nat) : (numsTo s m n).length ≤ n := by
  unfold numsTo
  refine Nat.le_trans (List.length_filter_le _ _) ?_
  rw [List.length_map, List.length_range]
  exact Nat.le_refl _
end F
end Go.Proofs.YtjlennpoaefllaaGreatDoor

/- The reference's call Where. -/
namespace Go.Proofs.YtjlennpoaefllaaGreatDoor
open Go.RowKit

/-- On the way through the pages. -/
structure WhAt (w wr : World) (s : F.Po) (m : F.Fr → Bool) (lv : Value) (k : Nat) : Prop where
  row : wr.ownsRow w.heap.size 3 1 lv (F.numsTo s m k).length (I (F.numsTo s m k))
  adds : Adds w wr
set_option maxRecDepth 100000 in
theorem WhAt.skip {w wr : World} {s : F.Po} {m : F.Fr → Bool} {lv : Value} {k : Nat} (h : WhAt w wr s m lv k) (hm : F.isAt s m (k : Int) = false) : WhAt w wr s m lv (k + 1) := by
  have e : F.numsTo s m (k + 1) = F.numsTo s m k := by rw [F.nums_next, if_neg (by rw [hm]; decide)]
  exact ⟨by rw [e]; exact h.row, h.adds⟩
set_option maxRecDepth 100000 in
theorem WhAt.take {w wr w2 : World} {s : F.Po} {m : F.Fr → Bool} {lv v' : Value} {k : Nat} {o : Obj} (h : WhAt w wr s m lv k) (hm : F.isAt s m (k : Int) = true) (hr : w2.ownsRow w.heap.size 3 1 v' ((F.numsTo s m k).length + 1) (I (F.numsTo s m k) ++ [.int .i64 (k : Int)])) (hg : (wr.alloc o).grownBy w2 lv.ownBlock) : WhAt w w2 s m v' (k + 1) := by
  have e : F.numsTo s m (k + 1) = F.numsTo s m k ++ [(k : Int)] := by rw [F.nums_next, if_pos hm]
  have e2 : I (F.numsTo s m k ++ [(k : Int)]) = I (F.numsTo s m k) ++ [.int .i64 (k : Int)] := by simp [I]
  refine ⟨by rw [e, e2, List.length_append]; exact hr, (h.adds.alloc o).then (grown_touch hg) (fun j hj c => ?_)⟩
  have := (row_low h.row c).1
  omega
set_option maxRecDepth 100000 in
theorem at_isAt {s : F.Po} {m : F.Fr → Bool} {z : Int} {f : F.Fr} (h : F.at? s.L z = some f) : F.isAt s m z = m f := by unfold F.isAt; rw [h]
set_option maxRecDepth 100000 in
theorem at_isNot {s : F.Po} {m : F.Fr → Bool} {z : Int} (h : F.at? s.L z = none) : F.isAt s m z = false := by unfold F.isAt; rw [h]
set_option maxRecDepth 100000 in
set_option maxHeartbeats 4000000 in
theorem qwhere_any {w : World} {O : Nat → Prop} {q r : Nat} {s : F.Po} {lv : Value} (h : QAt w O q r s lv) (hl : s.L.length ≤ 10000) (n : Nat) (hn : s.ct = (n : Int)) (hn2 : n ≤ 10000) (kd : Int) (m : F.Fr → Bool) (hm : (kd = 0 ∧ m = F.isHeld) ∨ (kd = 1 ∧ m = F.isFresh) ∨ (kd = 2 ∧ m = F.isDirty)) :
    Calls Tryz.prog 60 #[Ptr q, .int .i64 kd] w (PNums w (F.numsTo s m n)) := by
  have HQ := hid h
  have HL := hid hl
  have HC2 := hid (fun w' (hA : Adds w w') => show w'.cell? ⟨q, 2, none⟩ = some (.int .i64 (n : Int)) by have c := cellOf (h.adds hA).box 2; rw [hn] at c; exact c)
  have HF := hid (fun w' (hA : Adds w w') (k : Nat) (z : Int) (hz : z = F.idx s.L (k : Int)) => show Calls Tryz.prog 84 #[.pointer (some ⟨q, 0, none⟩), .int .i64 (k : Int)] w' (Tells (.int .i64 z) w') by rw [hz]; exact qfind_any (h.adds hA) (k : Int) hl)
  unfold Ptr
  clear h hl hn
  rcases hm with ⟨rfl, rfl⟩ | ⟨rfl, rfl⟩ | ⟨rfl, rfl⟩
  · go_enter Tryz.func60, Tryz.ntmps60
    go_wp2_with fail
    go_loopw [5, 6] (fun lv iv wr => ∃ k : Nat, iv = .int .i64 (k : Int) ∧ k ≤ n ∧ Hid (WhAt w wr s F.isHeld lv k)) (fun _ iv _ => n - (intOf iv).toNat)
    case atStart => exact ⟨0, rfl, Nat.zero_le _, World.ownsRow_nil _ _ _ _, Touch.refl _ _⟩
    case round =>
      obtain ⟨k, rfl, hk, HI⟩ := hrel
      have c2 := HC2.out wr HI.out.adds
      by_cases hlt : k < n
      · have hltz : (k : Int) < (n : Int) := by omega
        obtain ⟨z, hz⟩ : ∃ z, z = F.idx s.L (k : Int) := ⟨_, rfl⟩
        have HFk := hid (HF.out wr HI.out.adds k z hz)
        rcases F.idx_is s.L (k : Int) with ⟨i, hi, e1, _, e2⟩ | ⟨e1, e2, _⟩
        · rw [e1] at hz
          subst hz
          have hi0 : decide ((0 : Int) ≤ (i : Int)) = true := by simp
          obtain ⟨ao, cap, elv, hcap, hat⟩ := (HQ.out.adds HI.out.adds).at'
          obtain ⟨g, ea, _, hc, _⟩ := hat (by omega)
          subst ea
          obtain ⟨f, hf⟩ : ∃ f, f = s.L[i] := ⟨_, rfl⟩
          obtain ⟨sl, hsl⟩ : ∃ sl, sl = s.L.length := ⟨_, rfl⟩
          have d4 : wr.cell? ⟨q, 4, none⟩ = some (.slice (some ⟨g, 0, none⟩) sl cap) := by have c := cellOf (HQ.out.adds HI.out.adds).box 4; rw [elv] at c; rw [hsl]; exact c
          have e3 : wr.cell? ⟨g, i * 5 + 3, none⟩ = some (.bool f.fresh) := by rw [hf]; exact hc i hi 3 (by omega)
          have e4 : wr.cell? ⟨g, i * 5 + 4, none⟩ = some (.bool f.dirty) := by rw [hf]; exact hc i hi 4 (by omega)
          have HM := hid (show F.isAt s F.isHeld (k : Int) = F.isHeld f by rw [hf]; exact at_isAt e2)
          have hil : i < sl := by rw [hsl]; exact hi
          have hll : sl ≤ 10000 := by rw [hsl]; exact HL.out
          have HM2 : Hid (F.isHeld f = true) := rfl
          clear hf hsl hc hat e1 e2 elv hcap
          generalize f.fresh = fr at *
          generalize f.dirty = di at *
          cases fr <;> cases di
          all_goals
            go_wp2_with (first
              | (go_at_call 84; refine HFk.out.mono ?_; rintro e _ ⟨rfl, hw⟩; rw [hw]; clear hw)
              | (at_builtin; refine append_i1 rfl _ _ rfl w.heap.size _ _ _ rfl (row_keep HI.out.row ((Touch.refl (fun _ => False) wr).alloc _) (fun _ _ => id)) wr.heap.size (k : Int) rfl (cellOf (heap_alloc_new wr _) 0) (by have := F.nums_len s F.isHeld k; omega) (by have := HI.out.adds.size; simp; omega) ?_; intro v' w3 hr3 hg3; have H3 := hid (And.intro hr3 hg3); clear hr3 hg3))
            go_roundw
            case rel =>
              first
              | exact ⟨k + 1, by go_num, by omega, HI.out.skip (by rw [HM.out, HM2.out])⟩
              | exact ⟨k + 1, by go_num, by omega, HI.out.take (by rw [HM.out, HM2.out]) H3.out.1 H3.out.2⟩
            case measure => simp [intOf]; omega
        · rw [e1] at hz
          subst hz
          have HM := hid (at_isNot (m := F.isHeld) e2)
          clear e1 e2
          go_wp2_with (first
            | (go_at_call 84; refine HFk.out.mono ?_; rintro e _ ⟨rfl, hw⟩; rw [hw]; clear hw))
          go_roundw
          case rel => exact ⟨k + 1, by go_num, by omega, HI.out.skip HM.out⟩
          case measure => simp [intOf]; omega
      · have hltz : ¬ (k : Int) < (n : Int) := by omega
        obtain rfl : k = n := by omega
        go_wp2_with fail
        go_ret
        exact ⟨_, rfl, HI.out.row, HI.out.adds⟩
  · go_enter Tryz.func60, Tryz.ntmps60
    go_wp2_with fail
    go_loopw [5, 6] (fun lv iv wr => ∃ k : Nat, iv = .int .i64 (k : Int) ∧ k ≤ n ∧ Hid (WhAt w wr s F.isFresh lv k)) (fun _ iv _ => n - (intOf iv).toNat)
    case atStart => exact ⟨0, rfl, Nat.zero_le _, World.ownsRow_nil _ _ _ _, Touch.refl _ _⟩
    case round =>
      obtain ⟨k, rfl, hk, HI⟩ := hrel
      have c2 := HC2.out wr HI.out.adds
      by_cases hlt : k < n
      · have hltz : (k : Int) < (n : Int) := by omega
        obtain ⟨z, hz⟩ : ∃ z, z = F.idx s.L (k : Int) := ⟨_, rfl⟩
        have HFk := hid (HF.out wr HI.out.adds k z hz)
        rcases F.idx_is s.L (k : Int) with ⟨i, hi, e1, _, e2⟩ | ⟨e1, e2, _⟩
        · rw [e1] at hz
          subst hz
          have hi0 : decide ((0 : Int) ≤ (i : Int)) = true := by simp
          obtain ⟨ao, cap, elv, hcap, hat⟩ := (HQ.out.adds HI.out.adds).at'
          obtain ⟨g, ea, _, hc, _⟩ := hat (by omega)
          subst ea
          obtain ⟨f, hf⟩ : ∃ f, f = s.L[i] := ⟨_, rfl⟩
          obtain ⟨sl, hsl⟩ : ∃ sl, sl = s.L.length := ⟨_, rfl⟩
          have d4 : wr.cell? ⟨q, 4, none⟩ = some (.slice (some ⟨g, 0, none⟩) sl cap) := by have c := cellOf (HQ.out.adds HI.out.adds).box 4; rw [elv] at c; rw [hsl]; exact c
          have e3 : wr.cell? ⟨g, i * 5 + 3, none⟩ = some (.bool f.fresh) := by rw [hf]; exact hc i hi 3 (by omega)
          have e4 : wr.cell? ⟨g, i * 5 + 4, none⟩ = some (.bool f.dirty) := by rw [hf]; exact hc i hi 4 (by omega)
          have HM := hid (show F.isAt s F.isFresh (k : Int) = F.isFresh f by rw [hf]; exact at_isAt e2)
          have hil : i < sl := by rw [hsl]; exact hi
          have hll : sl ≤ 10000 := by rw [hsl]; exact HL.out
          have HM2 : Hid (F.isFresh f = f.fresh) := rfl
          clear hf hsl hc hat e1 e2 elv hcap
          generalize f.fresh = fr at *
          generalize f.dirty = di at *
          cases fr <;> cases di
          all_goals
            go_wp2_with (first
              | (go_at_call 84; refine HFk.out.mono ?_; rintro e _ ⟨rfl, hw⟩; rw [hw]; clear hw)
              | (at_builtin; refine append_i1 rfl _ _ rfl w.heap.size _ _ _ rfl (row_keep HI.out.row ((Touch.refl (fun _ => False) wr).alloc _) (fun _ _ => id)) wr.heap.size (k : Int) rfl (cellOf (heap_alloc_new wr _) 0) (by have := F.nums_len s F.isFresh k; omega) (by have := HI.out.adds.size; simp; omega) ?_; intro v' w3 hr3 hg3; have H3 := hid (And.intro hr3 hg3); clear hr3 hg3))
            go_roundw
            case rel =>
              first
              | exact ⟨k + 1, by go_num, by omega, HI.out.skip (by rw [HM.out, HM2.out])⟩
              | exact ⟨k + 1, by go_num, by omega, HI.out.take (by rw [HM.out, HM2.out]) H3.out.1 H3.out.2⟩
            case measure => simp [intOf]; omega
        · rw [e1] at hz
          subst hz
          have HM := hid (at_isNot (m := F.isFresh) e2)
          clear e1 e2
          go_wp2_with (first
            | (go_at_call 84; refine HFk.out.mono ?_; rintro e _ ⟨rfl, hw⟩; rw [hw]; clear hw))
          go_roundw
          case rel => exact ⟨k + 1, by go_num, by omega, HI.out.skip HM.out⟩
          case measure => simp [intOf]; omega
      · have hltz : ¬ (k : Int) < (n : Int) := by omega
        obtain rfl : k = n := by omega
        go_wp2_with fail
        go_ret
        exact ⟨_, rfl, HI.out.row, HI.out.adds⟩
  · go_enter Tryz.func60, Tryz.ntmps60
    go_wp2_with fail
    go_loopw [5, 6] (fun lv iv wr => ∃ k : Nat, iv = .int .i64 (k : Int) ∧ k ≤ n ∧ Hid (WhAt w wr s F.isDirty lv k)) (fun _ iv _ => n - (intOf iv).toNat)
    case atStart => exact ⟨0, rfl, Nat.zero_le _, World.ownsRow_nil _ _ _ _, Touch.refl _ _⟩
    case round =>
      obtain ⟨k, rfl, hk, HI⟩ := hrel
      have c2 := HC2.out wr HI.out.adds
      by_cases hlt : k < n
      · have hltz : (k : Int) < (n : Int) := by omega
        obtain ⟨z, hz⟩ : ∃ z, z = F.idx s.L (k : Int) := ⟨_, rfl⟩
        have HFk := hid (HF.out wr HI.out.adds k z hz)
        rcases F.idx_is s.L (k : Int) with ⟨i, hi, e1, _, e2⟩ | ⟨e1, e2, _⟩
        · rw [e1] at hz
          subst hz
          have hi0 : decide ((0 : Int) ≤ (i : Int)) = true := by simp
          obtain ⟨ao, cap, elv, hcap, hat⟩ := (HQ.out.adds HI.out.adds).at'
          obtain ⟨g, ea, _, hc, _⟩ := hat (by omega)
          subst ea
          obtain ⟨f, hf⟩ : ∃ f, f = s.L[i] := ⟨_, rfl⟩
          obtain ⟨sl, hsl⟩ : ∃ sl, sl = s.L.length := ⟨_, rfl⟩
          have d4 : wr.cell? ⟨q, 4, none⟩ = some (.slice (some ⟨g, 0, none⟩) sl cap) := by have c := cellOf (HQ.out.adds HI.out.adds).box 4; rw [elv] at c; rw [hsl]; exact c
          have e3 : wr.cell? ⟨g, i * 5 + 3, none⟩ = some (.bool f.fresh) := by rw [hf]; exact hc i hi 3 (by omega)
          have e4 : wr.cell? ⟨g, i * 5 + 4, none⟩ = some (.bool f.dirty) := by rw [hf]; exact hc i hi 4 (by omega)
          have HM := hid (show F.isAt s F.isDirty (k : Int) = F.isDirty f by rw [hf]; exact at_isAt e2)
          have hil : i < sl := by rw [hsl]; exact hi
          have hll : sl ≤ 10000 := by rw [hsl]; exact HL.out
          have HM2 : Hid (F.isDirty f = f.dirty) := rfl
          clear hf hsl hc hat e1 e2 elv hcap
          generalize f.fresh = fr at *
          generalize f.dirty = di at *
          cases fr <;> cases di
          all_goals
            go_wp2_with (first
              | (go_at_call 84; refine HFk.out.mono ?_; rintro e _ ⟨rfl, hw⟩; rw [hw]; clear hw)
              | (at_builtin; refine append_i1 rfl _ _ rfl w.heap.size _ _ _ rfl (row_keep HI.out.row ((Touch.refl (fun _ => False) wr).alloc _) (fun _ _ => id)) wr.heap.size (k : Int) rfl (cellOf (heap_alloc_new wr _) 0) (by have := F.nums_len s F.isDirty k; omega) (by have := HI.out.adds.size; simp; omega) ?_; intro v' w3 hr3 hg3; have H3 := hid (And.intro hr3 hg3); clear hr3 hg3))
            go_roundw
            case rel =>
              first
              | exact ⟨k + 1, by go_num, by omega, HI.out.skip (by rw [HM.out, HM2.out])⟩
              | exact ⟨k + 1, by go_num, by omega, HI.out.take (by rw [HM.out, HM2.out]) H3.out.1 H3.out.2⟩
            case measure => simp [intOf]; omega
        · rw [e1] at hz
          subst hz
          have HM := hid (at_isNot (m := F.isDirty) e2)
          clear e1 e2
          go_wp2_with (first
            | (go_at_call 84; refine HFk.out.mono ?_; rintro e _ ⟨rfl, hw⟩; rw [hw]; clear hw))
          go_roundw
          case rel => exact ⟨k + 1, by go_num, by omega, HI.out.skip HM.out⟩
          case measure => simp [intOf]; omega
      · have hltz : ¬ (k : Int) < (n : Int) := by omega
        obtain rfl : k = n := by omega
        go_wp2_with fail
        go_ret
        exact ⟨_, rfl, HI.out.row, HI.out.adds⟩
end Go.Proofs.YtjlennpoaefllaaGreatDoor

/- The reference's call Accept. -/
namespace Go.Proofs.YtjlennpoaefllaaGreatDoor
open Go.RowKit

theorem fcs_setF : ∀ (L : List F.Fr) (k : Nat) (hk : k < L.length) (j : Nat) (v : Value) (f : F.Fr), j < 5 → (fc L[k]).set j v = fc f → (fcs L).set (k * 5 + j) v = fcs (L.set k f)
  | [], k, hk, _, _, _, _, _ => absurd hk (by simp)
  | x :: L, 0, _, j, v, f, hj, hf => by
    simp only [fcs, List.flatMap_cons, Nat.zero_mul, Nat.zero_add, List.set_cons_zero]
    rw [List.set_append_left _ _ (by simp [fc]; exact hj)]
    have hf' : (fc x).set j v = fc f := hf
    rw [hf']
  | x :: L, k + 1, hk, j, v, f, hj, hf => by
    have ih := fcs_setF L k (by simpa using hk) j v f hj hf
    simp only [fcs, List.flatMap_cons, List.set_cons_succ] at ih ⊢
    rw [List.set_append_right _ _ (by simp [fc]; omega), show (fc x).length = 5 from rfl, show (k + 1) * 5 + j - 5 = k * 5 + j by omega, ih]
set_option maxRecDepth 100000 in
/-- A frame's cell is stored to. -/
theorem QAt.store {w : World} {O : Nat → Prop} {q r : Nat} {s : F.Po} {lv : Value} {g : Nat} (h : QAt w O q r s lv) (hg : lv.ownBlock = some g) {k : Nat} (hk : k < s.L.length) {j : Nat} (hj : j < 5) {v : Value} {f : F.Fr} (hf : (fc s.L[k]).set j v = fc f) :
    QAt (w.setCell ⟨g, k * 5 + j, none⟩ v) O q r { s with L := s.L.set k f } lv ∧ Touch (fun b => b = g) w (w.setCell ⟨g, k * 5 + j, none⟩ v) := by
  have hT : Touch (fun b => b = g) w (w.setCell ⟨g, k * 5 + j, none⟩ v) := Touch.setCell (T := fun b => b = g) (Touch.refl _ w) (p := ⟨g, k * 5 + j, none⟩) (fun _ => rfl) _
  obtain ⟨cap, e⟩ : ∃ cap, lv = .slice (some ⟨g, 0, none⟩) s.L.length cap := by
    rcases h.row.2 with ⟨e, _⟩ | ⟨g', cap, _, e, _⟩
    · rw [e] at hg; cases hg
    · rw [e] at hg
      obtain rfl : g' = g := by simpa [Value.ownBlock] using hg
      exact ⟨cap, e⟩
  refine ⟨⟨?_, ?_, h.oq, h.ol⟩, hT⟩
  · rw [hT.block q (Array.getElem?_eq_some_iff.1 h.box).1 (fun e => h.ne hg e.symm)]; exact h.box
  · have hr := h.row
    rw [e] at hr
    have q1 := (hr.stored (k * 5 + j) v).1
    rw [fcs_setF s.L k hk j v f hj hf] at q1
    show World.ownsRow _ 0 136 5 lv (s.L.set k f).length (fcs (s.L.set k f))
    rw [List.length_set, e]
    exact q1
set_option maxRecDepth 100000 in
theorem QAt.cellK {w : World} {O : Nat → Prop} {q r : Nat} {s : F.Po} {lv : Value} {g : Nat} (h : QAt w O q r s lv) (hg : lv.ownBlock = some g) {k : Nat} (hk : k < s.L.length) (j : Nat) (hj : j < 5) : w.cell? ⟨g, k * 5 + j, none⟩ = (fc s.L[k])[j]? ∧ w.frozen? ⟨g, k * 5 + j, none⟩ = false := by
  obtain ⟨ao, cap, e, _, hat⟩ := h.at'
  obtain ⟨g', ea, hob, hc, hfz⟩ := hat (by omega)
  rw [hg] at hob
  obtain rfl : g = g' := by simpa using hob
  exact ⟨hc k hk j hj, hfz _⟩
namespace F
/-- The first frames are changed. -/
def mapT (g : Fr → Fr) (L : List Fr) (i : Nat) : List Fr := (L.take i).map g ++ L.drop i
set_option maxRecDepth 100000 in
theorem mapT_len (g : Fr → Fr) (L : List Fr) (i : Nat) : (mapT g L i).length = L.length := by
  unfold mapT
  rw [List.length_append, List.length_map, List.length_take, List.length_drop]; omega
set_option maxRecDepth 100000 in
theorem mapT_zero (g : Fr → Fr) (L : List Fr) : mapT g L 0 = L := by simp [mapT]
set_option maxRecDepth 100000 in
theorem mapT_all (g : Fr → Fr) (L : List Fr) : mapT g L L.length = L.map g := by simp [mapT]
set_option maxRecDepth 100000 in
theorem mapT_at {g : Fr → Fr} {L : List Fr} {i : Nat} (hi : i < L.length) : (mapT g L i)[i]'(by rw [mapT_len]; exact hi) = L[i] := by
  have h : (mapT g L i)[i]? = some L[i] := by
    unfold mapT
    rw [List.getElem?_append_right (by rw [List.length_map, List.length_take]; omega), List.length_map, List.length_take, show i - min i L.length = 0 by omega, List.getElem?_drop, Nat.add_zero, List.getElem?_eq_getElem hi]
  exact (List.getElem?_eq_some_iff.1 h).2
set_option maxRecDepth 100000 in
theorem mapT_next {g : Fr → Fr} {L : List Fr} {i : Nat} (hi : i < L.length) : mapT g L (i + 1) = (mapT g L i).set i (g L[i]) := by
  unfold mapT
  rw [List.set_append_right _ _ (by rw [List.length_map, List.length_take]; omega), List.length_map, List.length_take, show i - min i L.length = 0 by omega]
  have e1 : L.take (i + 1) = L.take i ++ [L[i]] := by simp
  have e2 : L.drop i = L[i] :: L.drop (i + 1) := List.drop_eq_getElem_cons hi
  rw [e1, e2, List.map_append, List.set_cons_zero, List.append_assoc]
  rfl
set_option maxRecDepth 100000 in
theorem mapT_same {g : Fr → Fr} {L : List Fr} {i : Nat} (hi : i < L.length) (h : g L[i] = L[i]) : mapT g L (i + 1) = mapT g L i := by
  rw [mapT_next hi, h]
  have := mapT_at (g := g) hi
  conv => lhs; rw [← this]
  exact List.set_getElem_self _
/-- How many of the first frames are fresh. -/
def freshT (L : List Fr) (i : Nat) : Nat := ((L.take i).filter isFresh).length
set_option maxRecDepth 100000 in
theorem freshT_next {L : List Fr} {i : Nat} (hi : i < L.length) : freshT L (i + 1) = if L[i].fresh then freshT L i + 1 else freshT L i := by
  unfold freshT
  have e1 : L.take (i + 1) = L.take i ++ [L[i]] := by simp
  rw [e1, List.filter_append, List.length_append, List.filter_cons]
  cases h : L[i].fresh <;> simp [isFresh, h]
set_option maxRecDepth 100000 in
theorem freshT_all (s : Po) : freshT s.L s.L.length = (which s isFresh).length := by
  unfold freshT which
  rw [List.take_length, length_rise, List.length_map]
end F
/-- On the way through the frames. -/
structure AcAt (w wr : World) (O : Nat → Prop) (q r : Nat) (s : F.Po) (lv : Value) (g : F.Fr → F.Fr) (i : Nat) : Prop where
  q : QAt wr O q r { s with L := F.mapT g s.L i } lv
  touch : Touch O w wr
theorem AcAt.same {w wr : World} {O : Nat → Prop} {q r : Nat} {s : F.Po} {lv : Value} {g : F.Fr → F.Fr} {i : Nat} (h : AcAt w wr O q r s lv g i) (hi : i < s.L.length) (hg : g s.L[i] = s.L[i]) : AcAt w wr O q r s lv g (i + 1) := ⟨by rw [F.mapT_same hi hg]; exact h.q, h.touch⟩
set_option maxRecDepth 100000 in
set_option maxHeartbeats 4000000 in
theorem qaccept_any {w : World} {O : Nat → Prop} {q r : Nat} {s : F.Po} (h : IsQ w O q r s) (hl : s.L.length ≤ 10000) : Calls Tryz.prog 45 #[Ptr q] w (PQ11 w O q r (F.accS s) (.int .i64 ((F.which s F.isFresh).length : Int))) := by
  obtain ⟨lv, h⟩ := h
  obtain ⟨N, hN⟩ : ∃ N, N = (F.which s F.isFresh).length := ⟨_, rfl⟩
  have HN := hid (show F.freshT s.L s.L.length = N by rw [hN]; exact F.freshT_all s)
  rw [← hN]
  have HA : Hid (AcAt w w O q r s lv F.acc 0) := ⟨by rw [F.mapT_zero]; exact h, Touch.refl _ _⟩
  obtain ⟨ao, cap, elv, hcap, _⟩ := h.at'
  have HEL := hid elv
  obtain ⟨n, hn⟩ : ∃ n, n = s.L.length := ⟨_, rfl⟩
  have HLn := hid hn
  rw [← hn] at hl hcap
  unfold Ptr
  clear h hN elv hn
  go_enter Tryz.func45, Tryz.ntmps45
  go_wp2_with fail
  go_loopw [3, 4] (fun nv iv wr => ∃ i m : Nat, iv = .int .i64 (i : Int) ∧ nv = .int .i64 (m : Int) ∧ i ≤ n ∧ m ≤ i ∧ Hid (m = F.freshT s.L i) ∧ Hid (AcAt w wr O q r s lv F.acc i)) (fun _ iv _ => n - (intOf iv).toNat)
  case atStart => exact ⟨0, 0, rfl, rfl, Nat.zero_le _, Nat.le_refl _, hid (by simp [F.freshT]), HA.out⟩
  case round =>
    obtain ⟨i, m, rfl, rfl, hi, hmi, HM, HI⟩ := hrel
    have d4 : wr.cell? ⟨q, 4, none⟩ = some (.slice ao n cap) := by have c := cellOf HI.out.q.box 4; rw [HEL.out] at c; rw [HLn.out]; exact c
    by_cases hlt : i < n
    · have hltz : (i : Int) < (n : Int) := by omega
      have hi' : i < s.L.length := by rw [← HLn.out]; exact hlt
      have hi2 : i < (F.mapT F.acc s.L i).length := by rw [F.mapT_len]; exact hi'
      obtain ⟨ao', cap', e', _, hat⟩ := HI.out.q.at'
      obtain ⟨g, ea, hob, hc, hfz⟩ := hat (by show 0 < (F.mapT F.acc s.L i).length; omega)
      have eao : ao = some ⟨g, 0, none⟩ := by
        have e2 := HEL.out
        rw [e', ea] at e2
        simp at e2
        exact e2.1.symm
      subst eao
      have hf0 : (F.mapT F.acc s.L i)[i]'hi2 = s.L[i] := F.mapT_at hi'
      obtain ⟨f, hf⟩ : ∃ f, f = s.L[i] := ⟨_, rfl⟩
      have e2 : wr.cell? ⟨g, i * 5 + 2, none⟩ = some (Str f.was) := by have c := hc i hi2 2 (by omega); rw [show ({ s with L := F.mapT F.acc s.L i } : F.Po).L[i]'hi2 = f by rw [hf]; exact hf0] at c; exact c
      have e3 : wr.cell? ⟨g, i * 5 + 3, none⟩ = some (.bool f.fresh) := by have c := hc i hi2 3 (by omega); rw [show ({ s with L := F.mapT F.acc s.L i } : F.Po).L[i]'hi2 = f by rw [hf]; exact hf0] at c; exact c
      have e4 : wr.cell? ⟨g, i * 5 + 4, none⟩ = some (.bool f.dirty) := by have c := hc i hi2 4 (by omega); rw [show ({ s with L := F.mapT F.acc s.L i } : F.Po).L[i]'hi2 = f by rw [hf]; exact hf0] at c; exact c
      have f2 := hfz (i * 5 + 2)
      have f3 := hfz (i * 5 + 3)
      have f4 := hfz (i * 5 + 4)
      have HF := hid hf
      have HF0 := hid (show (F.mapT F.acc s.L i)[i]'hi2 = f by rw [hf]; exact hf0)
      have HOb := hid hob
      clear hc hat hfz hf hf0 e' ea hob
      cases hfr : f.fresh with
      | false =>
        rw [hfr] at e3
        have HX := hid (show F.acc s.L[i] = s.L[i] by rw [← HF.out]; unfold F.acc; rw [hfr]; rfl)
        have HX2 := hid (show F.freshT s.L (i + 1) = F.freshT s.L i by rw [F.freshT_next hi', ← HF.out, hfr]; rfl)
        go_wp2_with fail
        go_roundw
        case rel => exact ⟨i + 1, m, by go_num, rfl, by omega, by omega, hid (by rw [HX2.out]; exact HM.out), HI.out.same hi' HX.out⟩
        case measure => simp [intOf]; omega
      | true =>
        rw [hfr] at e3
        have HX2 := hid (show F.freshT s.L (i + 1) = F.freshT s.L i + 1 by rw [F.freshT_next hi', ← HF.out, hfr]; rfl)
        have HX := hid (show F.acc f = { f with was := [], fresh := false, dirty := true } by unfold F.acc; rw [hfr]; rfl)
        have hO : ∀ b, b = g → O b := fun b e => by rw [e]; exact HI.out.q.ol g HOb.out
        have HO := hid hO
        have HQa := hid (HI.out.q.store HOb.out hi2 (j := 3) (by omega) (v := .bool false) (f := { f with fresh := false }) (by show (fc ((F.mapT F.acc s.L i)[i]'hi2)).set 3 _ = _; rw [HF0.out]; rfl))
        have l1 : i < ((F.mapT F.acc s.L i).set i { f with fresh := false }).length := by rw [List.length_set]; exact hi2
        have l2 : i < (((F.mapT F.acc s.L i).set i { f with fresh := false }).set i { f with fresh := false, dirty := true }).length := by rw [List.length_set]; exact l1
        have HL1 := hid l1
        have HL2 := hid l2
        clear hO l1 l2 e2 e4 f2 f4
        go_upto_region 8 with fail
        obtain ⟨wa, hwa⟩ : ∃ wa, wa = wr.setCell ⟨g, i * 5 + 3, none⟩ (.bool false) := ⟨_, rfl⟩
        rw [← hwa] at HQa ⊢
        clear hwa e3 f3 d4
        have d4 : wa.cell? ⟨q, 4, none⟩ = some (.slice (some ⟨g, 0, none⟩) n cap) := by have c := cellOf HQa.out.1.box 4; rw [HEL.out] at c; rw [HLn.out]; exact c
        have ka : wa.cell? ⟨g, i * 5 + 4, none⟩ = some (.bool f.dirty) := by have c := (HQa.out.1.cellK HOb.out (k := i) HL1.out 4 (by omega)).1; rw [show (({ s with L := F.mapT F.acc s.L i } : F.Po).L.set i { f with fresh := false })[i]'HL1.out = { f with fresh := false } from List.getElem_set_self _] at c; exact c
        have fa := (HQa.out.1.cellK HOb.out (k := i) HL1.out 4 (by omega)).2
        have HQb := hid (HQa.out.1.store HOb.out (k := i) HL1.out (j := 4) (by omega) (v := .bool true) (f := { f with fresh := false, dirty := true }) (by show (fc (((F.mapT F.acc s.L i).set i { f with fresh := false })[i]'HL1.out)).set 4 _ = _; rw [List.getElem_set_self]; rfl))
        go_upto_region 9 with fail
        obtain ⟨wb, hwb⟩ : ∃ wb, wb = wa.setCell ⟨g, i * 5 + 4, none⟩ (.bool true) := ⟨_, rfl⟩
        rw [← hwb] at HQb ⊢
        clear hwb ka fa d4
        have d4 : wb.cell? ⟨q, 4, none⟩ = some (.slice (some ⟨g, 0, none⟩) n cap) := by have c := cellOf HQb.out.1.box 4; rw [HEL.out] at c; rw [HLn.out]; exact c
        have kb : wb.cell? ⟨g, i * 5 + 2, none⟩ = some (.string ⟨f.was.toArray⟩) := by have c := (HQb.out.1.cellK HOb.out (k := i) HL2.out 2 (by omega)).1; rw [show ((({ s with L := F.mapT F.acc s.L i } : F.Po).L.set i { f with fresh := false }).set i { f with fresh := false, dirty := true })[i]'HL2.out = { f with fresh := false, dirty := true } from List.getElem_set_self _] at c; exact c
        have fb := (HQb.out.1.cellK HOb.out (k := i) HL2.out 2 (by omega)).2
        have HQc := hid (HQb.out.1.store HOb.out (k := i) HL2.out (j := 2) (by omega) (v := Str []) (f := { f with was := [], fresh := false, dirty := true }) (by show (fc ((((F.mapT F.acc s.L i).set i { f with fresh := false }).set i { f with fresh := false, dirty := true })[i]'HL2.out)).set 2 _ = _; rw [List.getElem_set_self]; rfl))
        go_wp2_with fail
        go_roundw
        case rel =>
          refine ⟨i + 1, m + 1, by go_num, by go_num, by omega, by omega, hid (by rw [HX2.out, ← HM.out]), ?_, ((HI.out.touch.trans (HQa.out.2.mono (fun b _ e => HO.out b e))).trans (HQb.out.2.mono (fun b _ e => HO.out b e))).trans (HQc.out.2.mono (fun b _ e => HO.out b e))⟩
          have q3 := HQc.out.1
          rw [F.mapT_next hi', ← HF.out, HX.out]
          simp only [List.set_set] at q3
          exact q3
        case measure => simp [intOf]; omega
    · have hltz : ¬ (i : Int) < (n : Int) := by omega
      obtain rfl : i = n := by omega
      go_wp2_with fail
      go_ret
      have e : m = N := by rw [HM.out, HLn.out]; exact HN.out
      rw [e]
      refine ⟨rfl, O, ⟨lv, ?_⟩, HI.out.touch, fun k c => .inl c⟩
      have q1 := HI.out.q
      rw [HLn.out, F.mapT_all] at q1
      exact q1
end Go.Proofs.YtjlennpoaefllaaGreatDoor

/- The reference's call Drop. -/
namespace Go.Proofs.YtjlennpoaefllaaGreatDoor
open Go.RowKit
namespace F
/-- What is left of the first frames. -/
def dropT (L : List Fr) (i : Nat) : List Fr := ((L.take i).filter kept).map drp
set_option maxRecDepth 100000 in
theorem dropT_next {L : List Fr} {i : Nat} (hi : i < L.length) : dropT L (i + 1) = if kept L[i] then dropT L i ++ [drp L[i]] else dropT L i := by
  unfold dropT
  have e1 : L.take (i + 1) = L.take i ++ [L[i]] := by simp
  rw [e1, List.filter_append, List.map_append, List.filter_cons]
  cases h : kept L[i] <;> simp
set_option maxRecDepth 100000 in
theorem dropT_all (L : List Fr) : dropT L L.length = (L.filter kept).map drp := by unfold dropT; rw [List.take_length]
set_option maxRecDepth 100000 in
theorem dropT_len (L : List Fr) (i : Nat) : (dropT L i).length ≤ i := by
  unfold dropT
  rw [List.length_map]
  refine Nat.le_trans (List.length_filter_le _ _) ?_
  rw [List.length_take]; omega
end F
set_option maxRecDepth 100000 in
theorem infoFr (f : F.Fr) : (Tryz.prog.info? 136).map (·.size) = some (fc f).length := by kernel_rfl
set_option maxRecDepth 100000 in
theorem zeroFr (w : World) : (zeroValue 136).run Tryz.prog w = .ok (.agg #[.int .i64 0, .string ⟨#[]⟩, .string ⟨#[]⟩, .bool false, .bool false]) w := by kernel_rfl
theorem one_fc (f : F.Fr) : ∀ u ∈ fc f, u.oneCell' = true := fun u hu => one_fcs [f] u (by rw [fcs_one]; exact hu)
theorem set_fr (w : World) (f : F.Fr) : (storeCells ⟨w.heap.size, 0, none⟩ (fc f) 0).run Tryz.prog (w.alloc (.cells #[.int .i64 0, .string ⟨#[]⟩, .string ⟨#[]⟩, .bool false, .bool false] 136)) = .ok () (w.alloc (.cells (fc f).toArray 136)) :=
  run_storeCells_new w 136 _ (fc f).toArray (infoFr f) rfl (all_oneCell_toArray (one_fc f))
theorem range_box {w : World} {b : Nat} {f : F.Fr} (h : w.heap[b]? = some (.cells (fc f).toArray 136 (0, 0))) : w.rangeAt b 0 (fc f) := fun j v hv => by
  rw [Nat.zero_add, cellOf h, List.getElem?_toArray]
  exact hv
set_option maxRecDepth 100000 in
theorem build_fr (f : F.Fr) (w : World) : (Instr.buildSlice 90 1 #[(0, .agg (fc f).toArray)]).run Tryz.prog w = .ok (.slice (some ⟨w.heap.size, 0, none⟩) 1 1) (w.alloc (.cells (fc f).toArray 136)) := by
  unfold fc
  kernel_rfl
theorem list_buildFr {w : World} {ops : Array Oper} {rest : List Oper} {o : Oper} {act : Act} {Q : Exit → Act → World → Prop} (hgd : o.guard = none) (x : Operand) (ho : o.op = .buildSlice 90 1 #[(0, x)]) (f : F.Fr) (hx : act.eval x = .agg (fc f).toArray)
    (h : wpList Tryz.prog ops Q rest (act.put o.dst (.slice (some ⟨w.heap.size, 0, none⟩) 1 1)) (w.alloc (.cells (fc f).toArray 136))) : wpList Tryz.prog ops Q (o :: rest) act w :=
  wpList_plain hgd fun _ hK => wp_buildSlice 90 1 0 x ho hx (build_fr f w) (hK _ _ h)
/-- On the way through the frames. -/
structure DrAt (w wr : World) (s : F.Po) (lv : Value) (i : Nat) : Prop where
  row : wr.ownsRow w.heap.size 136 5 lv (F.dropT s.L i).length (fcs (F.dropT s.L i))
  adds : Adds w wr
set_option maxRecDepth 100000 in
/-- One more is kept. -/
theorem DrAt.more {w wr w2 w3 : World} {s : F.Po} {lv v3 : Value} {i : Nat} (h : DrAt w wr s lv i) (hi : i < s.L.length) (hk : F.kept s.L[i] = true) (hT : Touch (fun k => wr.heap.size ≤ k) wr w2) (hr : w3.ownsRow w.heap.size 136 5 v3 ((F.dropT s.L i).length + 1) (fcs (F.dropT s.L i ++ [F.drp s.L[i]]))) (hg : w2.grownBy w3 lv.ownBlock) : DrAt w w3 s v3 (i + 1) := by
  have e : F.dropT s.L (i + 1) = F.dropT s.L i ++ [F.drp s.L[i]] := by rw [F.dropT_next hi, if_pos hk]
  have z1 := h.adds.size
  refine ⟨by rw [e, List.length_append]; exact hr, (h.adds.then hT (fun k hk' c => by omega)).then (grown_touch hg) (fun k hk' c => ?_)⟩
  have := (own_low h.row c).1
  omega
set_option maxRecDepth 100000 in
theorem DrAt.less {w wr w2 : World} {s : F.Po} {lv : Value} {i : Nat} (h : DrAt w wr s lv i) (hi : i < s.L.length) (hk : F.kept s.L[i] = false) (hT : Touch (fun k => wr.heap.size ≤ k) wr w2) : DrAt w w2 s lv (i + 1) := by
  have e : F.dropT s.L (i + 1) = F.dropT s.L i := by rw [F.dropT_next hi, if_neg (by rw [hk]; decide)]
  have z1 := h.adds.size
  exact ⟨by rw [e]; exact own_kept h.row hT (fun k hk' c => by have := (own_low h.row hk').2; omega), h.adds.then hT (fun k hk' c => by omega)⟩
set_option maxRecDepth 100000 in
set_option maxHeartbeats 4000000 in
theorem qDrop_any {w : World} {O : Nat → Prop} {q r : Nat} {s : F.Po} (h : IsQ w O q r s) (hl : s.L.length ≤ 10000) : Calls Tryz.prog 47 #[Ptr q] w (PQ11 w O q r (F.dropS s) (.int .i64 ((F.which s F.isFresh).length : Int))) := by
  obtain ⟨lv, h⟩ := h
  obtain ⟨N, hN⟩ : ∃ N, N = (F.which s F.isFresh).length := ⟨_, rfl⟩
  have HN := hid (show F.freshT s.L s.L.length = N by rw [hN]; exact F.freshT_all s)
  rw [← hN]
  obtain ⟨ao, cap, elv, hcap, hat0⟩ := h.at'
  subst elv
  have HQ := hid h
  have HFin := hid (fun (wr : World) (v2 : Value) (hA : Adds w wr) (hr : wr.ownsRow w.heap.size 136 5 v2 (F.dropT s.L s.L.length).length (fcs (F.dropT s.L s.L.length))) => show wr.heap[q]? = some (QBox r s (.slice ao s.L.length cap)) ∧ PQ11 w O q r (F.dropS s) (.int .i64 (N : Int)) (.returned (.int .i64 (N : Int))) (wr.setCell ⟨q, 4, none⟩ v2) by
    rw [F.dropT_all] at hr
    obtain ⟨q1, O', h1, h2, h3⟩ := h.set (hA.mono (fun _ _ c => c.elim)) (L := (s.L.filter F.kept).map F.drp) (v2 := v2) (own_down hr) (fun k hk => .inr (own_low hr hk).1)
    exact ⟨q1, rfl, O', ⟨_, h1⟩, h2, h3⟩)
  obtain ⟨n, hn⟩ : ∃ n, n = s.L.length := ⟨_, rfl⟩
  have HLn := hid hn
  rw [← hn] at hl hcap
  have hzv := zeroFr
  unfold Ptr
  clear h hN hat0 hn
  go_enter Tryz.func47, Tryz.ntmps47
  go_wp2_with fail
  go_loopw [3, 4, 5] (fun lv nv iv wr => ∃ i m : Nat, iv = .int .i64 (i : Int) ∧ nv = .int .i64 (m : Int) ∧ i ≤ n ∧ m ≤ i ∧ Hid (m = F.freshT s.L i) ∧ Hid (DrAt w wr s lv i)) (fun _ _ iv _ => n - (intOf iv).toNat)
  case atStart => exact ⟨0, 0, rfl, rfl, Nat.zero_le _, Nat.le_refl _, hid (by simp [F.freshT]), World.ownsRow_nil _ _ _ _, Touch.refl _ _⟩
  case round =>
    obtain ⟨i, m, rfl, rfl, hi, hmi, HM, HI⟩ := hrel
    have hqr := HQ.out.adds HI.out.adds
    have d4 : wr.cell? ⟨q, 4, none⟩ = some (.slice ao n cap) := by have c := cellOf hqr.box 4; rw [HLn.out]; exact c
    by_cases hlt : i < n
    · have hltz : (i : Int) < (n : Int) := by omega
      have hi' : i < s.L.length := by rw [← HLn.out]; exact hlt
      obtain ⟨ao', cap', e', _, hat⟩ := hqr.at'
      obtain ⟨g, ea, hob, hc, hfz⟩ := hat (by omega)
      have eao : ao = some ⟨g, 0, none⟩ := by
        have e2 := e'
        rw [ea] at e2
        simp at e2
        exact e2.1
      subst eao
      obtain ⟨f, hf⟩ : ∃ f, f = s.L[i] := ⟨_, rfl⟩
      have hrr : Hid (wr.rangeAt g (i * 5) (fc f)) := fun j v hv => by
        have hj : j < 5 := (List.getElem?_eq_some_iff.1 hv).1
        rw [hc i hi' j hj, ← hf]
        exact hv
      have hi53 := hid (infoFr f)
      have hset := set_fr wr f
      have HF := hid hf
      clear hqr hc hat hfz hf e' ea hob
      go_upto_region 6 with fail
      go_cut [6] from 7 to 44 (fun t6 w' => t6 = .pointer (some ⟨wr.heap.size, 0, none⟩) ∧ w' = wr.alloc (.cells (fc f).toArray 136))
      case first =>
        go_wp2_with (refine wpList_load_mid rfl 136 _ rfl g (i * 5) rfl (fc f) _ hrr.out Tryz.underlying136 rfl hi53.out ?_)
        go_meet
        case rel => exact ⟨rfl, rfl⟩
      case rest =>
        rename World => w5
        obtain ⟨hu6, hw5⟩ := hcut
        subst hu6
        obtain ⟨b, hb⟩ : ∃ b, b = wr.heap.size := ⟨_, rfl⟩
        have hh5 : w5.heap[b]? = some (.cells (fc f).toArray 136 (0, 0)) := by rw [hw5, hb]; exact heap_alloc_new wr _
        have HA5 := hid (show Adds wr w5 by rw [hw5]; exact (Touch.refl _ wr).alloc _)
        have HBz := hid (And.intro hb (show b < w5.heap.size by rw [hw5, hb]; simp))
        rw [← hb]
        have HH5 := hid hh5
        have c1 : w5.cell? ⟨b, 1, none⟩ = some (.string ⟨f.now.toArray⟩) := cellOf hh5 1
        have c2 : w5.cell? ⟨b, 2, none⟩ = some (.string ⟨f.was.toArray⟩) := cellOf hh5 2
        have c3 : w5.cell? ⟨b, 3, none⟩ = some (.bool f.fresh) := cellOf hh5 3
        have c4 : w5.cell? ⟨b, 4, none⟩ = some (.bool f.dirty) := cellOf hh5 4
        have f1 := frozen_of_row w5 b 1 _ 136 hh5
        have f2 := frozen_of_row w5 b 2 _ 136 hh5
        have f3 := frozen_of_row w5 b 3 _ 136 hh5
        have HT5 := hid (show Touch (fun k => wr.heap.size ≤ k) wr w5 from HA5.out.mono (fun _ _ c => c.elim))
        clear hset hrr hi53 hw5 hb hh5 d4
        cases hfr : f.fresh with
        | false =>
          rw [hfr] at c3
          have HX2 := hid (show F.freshT s.L (i + 1) = F.freshT s.L i by rw [F.freshT_next hi', ← HF.out, hfr]; rfl)
          have HK := hid (show F.kept s.L[i] = true by rw [← HF.out]; unfold F.kept; rw [hfr]; rfl)
          have HD := hid (show F.drp s.L[i] = f by rw [← HF.out]; unfold F.drp; rw [hfr]; rfl)
          have hr5 := hid (range_box HH5.out)
          have hi5 := hid (infoFr f)
          have HR5 := hid (own_kept HI.out.row (HT5.out.trans (show Touch (fun k => wr.heap.size ≤ k) w5 (w5.alloc (.cells (fc f).toArray 136)) from ((Touch.refl (fun _ => False) w5).alloc _).mono (fun _ _ c => c.elim))) (fun k hk' c => by have := (own_low HI.out.row hk').2; omega))
          have HKc := hid (show ∀ j u, (fcs [f])[j]? = some u → (w5.alloc (.cells (fc f).toArray 136)).cell? ((⟨w5.heap.size, 0, none⟩ : Addr).add j) = some u from fun j u hu => by
            rw [fcs_one] at hu
            rw [Addr.add_mid, Nat.zero_add, cellOf (heap_alloc_new w5 _), List.getElem?_toArray]
            exact hu)
          have HBs := hid (show w.heap.size ≤ (w5.alloc (.cells (fc f).toArray 136)).heap.size by have := HI.out.adds.size; have := HA5.out.size; simp; omega)
          have HLt := hid (show (F.dropT s.L i).length + 1 ≤ 100000 by have := F.dropT_len s.L i; omega)
          go_wp2_with (first
            | (refine wpList_load_mid rfl 136 _ rfl b 0 rfl (fc f) _ hr5.out Tryz.underlying136 rfl hi5.out ?_)
            | (refine list_buildFr rfl (.tmp 42) rfl f rfl ?_)
            | (at_builtin; refine append_fr rfl _ _ rfl w.heap.size _ _ (F.dropT s.L i) rfl HR5.out ⟨w5.heap.size, 0, none⟩ 1 1 [f] rfl rfl HKc.out HLt.out HBs.out ?_; intro v7 w7 hr7 hg7 ha7; have H7 := hid (And.intro hr7 hg7); clear hr7 hg7 ha7))
          go_roundw
          case rel =>
            refine ⟨i + 1, m, by go_num, rfl, by omega, by omega, hid (by rw [HX2.out]; exact HM.out), HI.out.more hi' HK.out (HT5.out.trans (show Touch (fun k => wr.heap.size ≤ k) w5 (w5.alloc (.cells (fc f).toArray 136)) from ((Touch.refl (fun _ => False) w5).alloc _).mono (fun _ _ c => c.elim))) ?_ H7.out.2⟩
            rw [HD.out]
            exact H7.out.1
          case measure => simp [intOf]; omega
        | true =>
          rw [hfr] at c3
          have HX2 := hid (show F.freshT s.L (i + 1) = F.freshT s.L i + 1 by rw [F.freshT_next hi', ← HF.out, hfr]; rfl)
          cases hdi : f.dirty with
          | false =>
            rw [hdi] at c4
            have HK := hid (show F.kept s.L[i] = false by rw [← HF.out]; unfold F.kept; rw [hfr, hdi]; rfl)
            go_wp2_with fail
            go_roundw
            case rel => exact ⟨i + 1, m + 1, by go_num, by go_num, by omega, by omega, hid (by rw [HX2.out, ← HM.out]), HI.out.less hi' HK.out HT5.out⟩
            case measure => simp [intOf]; omega
          | true =>
            rw [hdi] at c4
            have HK := hid (show F.kept s.L[i] = true by rw [← HF.out]; unfold F.kept; rw [hfr, hdi]; rfl)
            obtain ⟨f', hf'⟩ : ∃ f', f' = F.drp f := ⟨_, rfl⟩
            have HFc := hid (show fc f' = [.int .i64 f.no, Str f.was, Str [], .bool false, .bool true] by rw [hf']; unfold F.drp; rw [hfr]; show [Value.int .i64 f.no, Str f.was, Str [], .bool false, .bool f.dirty] = _; rw [hdi])
            have HD := hid (show F.drp s.L[i] = f' by rw [← HF.out, hf'])
            have HB8 := hid (show ∀ w8, w8 = ((w5.setCell ⟨b, 1, none⟩ (.string ⟨f.was.toArray⟩)).setCell ⟨b, 2, none⟩ (.string ⟨#[]⟩)).setCell ⟨b, 3, none⟩ (.bool false) → w8.heap[b]? = some (.cells (fc f').toArray 136 (0, 0)) ∧ Touch (fun k => k = b) w5 w8 from fun w8 e => by
              have q1 := heap_setCell_same w5 b 1 _ 136 (.string ⟨f.was.toArray⟩) HH5.out
              have q2 := heap_setCell_same _ b 2 _ 136 (.string ⟨#[]⟩) q1
              have q3 := heap_setCell_same _ b 3 _ 136 (.bool false) q2
              rw [e]
              refine ⟨?_, (((Touch.refl (fun k => k = b) w5).setCell (p := ⟨b, 1, none⟩) (fun _ => rfl) _).setCell (p := ⟨b, 2, none⟩) (fun _ => rfl) _).setCell (p := ⟨b, 3, none⟩) (fun _ => rfl) _⟩
              rw [q3, HFc.out]
              unfold fc
              rw [hdi]
              rfl)
            go_upto_region 13 with fail
            obtain ⟨w8, hw8⟩ : ∃ w8, w8 = ((w5.setCell ⟨b, 1, none⟩ (.string ⟨f.was.toArray⟩)).setCell ⟨b, 2, none⟩ (.string ⟨#[]⟩)).setCell ⟨b, 3, none⟩ (.bool false) := ⟨_, rfl⟩
            obtain ⟨hh8, hT8⟩ := HB8.out w8 hw8
            rw [← hw8]
            have g3 : w8.cell? ⟨b, 3, none⟩ = some (.bool false) := by have c := cellOf hh8 3; rw [HFc.out] at c; exact c
            have HT8 := hid (show Touch (fun k => wr.heap.size ≤ k) wr w8 from HT5.out.trans (hT8.mono (fun k _ e => by rw [e, HBz.out.1]; exact Nat.le_refl _)))
            have HZ8 := hid (show w5.heap.size ≤ w8.heap.size from hT8.size)
            have hr5 := hid (range_box hh8)
            have hi5 := hid (infoFr f')
            have HR5 := hid (own_kept HI.out.row (HT8.out.trans (show Touch (fun k => wr.heap.size ≤ k) w8 (w8.alloc (.cells (fc f').toArray 136)) from ((Touch.refl (fun _ => False) w8).alloc _).mono (fun _ _ c => c.elim))) (fun k hk' c => by have := (own_low HI.out.row hk').2; omega))
            have HKc := hid (show ∀ j u, (fcs [f'])[j]? = some u → (w8.alloc (.cells (fc f').toArray 136)).cell? ((⟨w8.heap.size, 0, none⟩ : Addr).add j) = some u from fun j u hu => by
              rw [fcs_one] at hu
              rw [Addr.add_mid, Nat.zero_add, cellOf (heap_alloc_new w8 _), List.getElem?_toArray]
              exact hu)
            have HBs := hid (show w.heap.size ≤ (w8.alloc (.cells (fc f').toArray 136)).heap.size by have := HI.out.adds.size; have := HA5.out.size; have := HZ8.out; simp; omega)
            have HLt := hid (show (F.dropT s.L i).length + 1 ≤ 100000 by have := F.dropT_len s.L i; omega)
            clear hw8 hh8 hT8 c1 c2 c3 c4 f1 f2 f3 hf'
            go_wp2_with (first
              | (refine wpList_load_mid rfl 136 _ rfl b 0 rfl (fc f') _ hr5.out Tryz.underlying136 rfl hi5.out ?_)
              | (refine list_buildFr rfl (.tmp 42) rfl f' rfl ?_)
              | (at_builtin; refine append_fr rfl _ _ rfl w.heap.size _ _ (F.dropT s.L i) rfl HR5.out ⟨w8.heap.size, 0, none⟩ 1 1 [f'] rfl rfl HKc.out HLt.out HBs.out ?_; intro v7 w7 hr7 hg7 ha7; have H7 := hid (And.intro hr7 hg7); clear hr7 hg7 ha7))
            go_roundw
            case rel =>
              refine ⟨i + 1, m + 1, by go_num, by go_num, by omega, by omega, hid (by rw [HX2.out, ← HM.out]), HI.out.more hi' HK.out (HT8.out.trans (show Touch (fun k => wr.heap.size ≤ k) w8 (w8.alloc (.cells (fc f').toArray 136)) from ((Touch.refl (fun _ => False) w8).alloc _).mono (fun _ _ c => c.elim))) ?_ H7.out.2⟩
              rw [HD.out]
              exact H7.out.1
            case measure => simp [intOf]; omega
    · have hltz : ¬ (i : Int) < (n : Int) := by omega
      obtain rfl : i = n := by omega
      have hrow := HI.out.row
      rw [HLn.out] at hrow
      obtain ⟨hb9, hp9⟩ := HFin.out wr _ HI.out.adds hrow
      obtain ⟨ga, gn, gc, ev⟩ : ∃ ga gn gc, u3 = .slice ga gn gc := by
        rcases hrow.2 with ⟨e, e0⟩ | ⟨g3, cap3, _, e, _⟩
        · exact ⟨_, _, _, e⟩
        · exact ⟨_, _, _, e⟩
      subst ev
      have HP9 := hid hp9
      have d5 := cellOf hb9 4
      have f5 := frozen_of_row wr q 4 _ 92 hb9
      have e : m = N := by rw [HM.out, HLn.out]; exact HN.out
      subst e
      clear hqr hrow hb9 hp9
      go_wp2_with fail
      go_ret
      exact HP9.out
end Go.Proofs.YtjlennpoaefllaaGreatDoor

/- The reference's call Get. -/
namespace Go.Proofs.YtjlennpoaefllaaGreatDoor
open Go.RowKit

set_option maxRecDepth 100000 in
theorem str_256Q (bs : List UInt8) (h : bs.length = 256) (w : World) : ∃ cap w1, (convert 9 43 (.string ⟨bs.toArray⟩)).run Tryz.prog w = .ok (.slice (some ⟨w.heap.size, 0, none⟩) 256 cap) w1 ∧ 256 ≤ cap ∧ At w1 (some ⟨w.heap.size, 0, none⟩) bs ∧ Adds w w1 := by
  have e : (⟨bs.toArray⟩ : ByteArray).size = 256 := by simp [ByteArray.size, h]
  have q := run_bytes_of_string (P := Tryz.prog) w 9 43 5 ⟨bs.toArray⟩ Tryz.underlying9 Tryz.underlying43 Tryz.underlying5
  rw [e] at q
  have hg : (w.drew.alloc (Obj.cells (bytesRow ⟨bs.toArray⟩ (grownCap w 256 0 5)) 5 ((bytesRow ⟨bs.toArray⟩ (grownCap w 256 0 5)).size, (bytesRow ⟨bs.toArray⟩ (grownCap w 256 0 5)).size + 1))).heap[w.heap.size]? = some _ := heap_alloc_new w.drew _
  refine ⟨_, _, q, grownCap_ge w 256 0 5, ?_, (Touch.refl _ w).drew.alloc _⟩
  intro j c hj
  refine ⟨_, _, rfl, ?_⟩
  have hlt : j < bs.length := (List.getElem?_eq_some_iff.1 hj).1
  rw [cell_of_row _ _ _ _ _ _ hg, Nat.zero_add, bytesRow_at _ _ j (by simpa using hlt)]
  rw [List.getElem?_eq_getElem hlt] at hj
  obtain rfl : bs[j] = c := by simpa using hj
  rfl
/-- From a world to a later one, of a pool of the reference's. -/
def Qs (w : World) (O : Nat → Prop) (w' : World) (O' : Nat → Prop) : Prop := Touch O w w' ∧ ∀ k, O' k → O k ∨ (w.heap.size ≤ k ∧ k < w'.heap.size)
set_option maxRecDepth 100000 in
theorem Qs.trans {w w1 w2 : World} {O O1 O2 : Nat → Prop} (h : Qs w O w1 O1) (h2 : Qs w1 O1 w2 O2) : Qs w O w2 O2 := by
  have z1 := h.1.size
  have z2 := h2.1.size
  refine ⟨h.1.then h2.1 (fun k hk c => ?_), fun k c => ?_⟩
  · rcases h.2 k c with c | c
    · exact c
    · omega
  · rcases h2.2 k c with c | c
    · rcases h.2 k c with c | c
      · exact .inl c
      · exact .inr ⟨c.1, by omega⟩
    · exact .inr ⟨by omega, c.2⟩
theorem Qs.adds {w w1 : World} (O : Nat → Prop) (hA : Adds w w1) : Qs w O w1 O := ⟨hA.mono (fun _ _ c => c.elim), fun _ c => .inl c⟩
set_option maxRecDepth 100000 in
theorem wp_append_fr {w : World} {o : Oper} {act : Act} {K : Act → World → Prop} {Q : Exit → Act → World → Prop} (s x : Operand)
    (ho : o.op = .call { callee := .builtin .append, args := #[s, x], argTypes := #[90, 90] }) (B : Nat) (v : Value) (n : Nat) (L : List F.Fr) (hs : act.eval s = v) (hown : w.ownsRow B 136 5 v n (fcs L))
    (ad : Addr) (m c : Nat) (M : List F.Fr) (hm : M.length = m) (hx : act.eval x = .slice (some ad) m c) (hK : ∀ j u, (fcs M)[j]? = some u → w.cell? (ad.add j) = some u) (hlen : n + m ≤ 100000) (hB : B ≤ w.heap.size)
    (h : ∀ v' w', w'.ownsRow B 136 5 v' (n + m) (fcs (L ++ M)) → w.grownBy w' v.ownBlock → (v'.ownBlock = v.ownBlock ∨ v'.ownBlock = some w.heap.size) → K (act.put o.dst v') w') : o.wp Tryz.prog act w K Q := by
  obtain ⟨i0, hi, hz0, hz1, hz2⟩ := infoFrame
  exact wp_append_own_at s x 90 ho B 136 i0 _ 5 48 Tryz.underlying90 hi hz0 hz1 hz2 rfl (by decide) v n (fcs L) hs hown ad m c (fcs M) hx (by rw [fcs_len, hm]) hK (one_fcs M) (by unfold maxLen; omega) (by omega) hB (fun v' w' h1 h2 _ h4 => h v' w' (by rw [fcs_app]; exact h1) h2 h4)
theorem box_cells {w : World} {b : Nat} {f : F.Fr} (h : w.heap[b]? = some (.cells (fc f).toArray 136 (0, 0))) : ∀ j u, (fcs [f])[j]? = some u → w.cell? ((⟨b, 0, none⟩ : Addr).add j) = some u := fun j u hu => by
  rw [fcs_one] at hu
  rw [Addr.add_mid, Nat.zero_add, cellOf h, List.getElem?_toArray]
  exact hu
set_option maxRecDepth 100000 in
theorem row_form {w : World} {B : Nat} {e : TypeId} {size : Nat} {v : Value} {n : Nat} {xs : List Value} (h : w.ownsRow B e size v n xs) : ∃ a c, v = .slice a n c := by
  rcases h.2 with ⟨e, e0⟩ | ⟨g3, cap3, _, e, _⟩
  · exact ⟨none, 0, by rw [e, e0]⟩
  · exact ⟨_, _, e⟩
set_option maxRecDepth 100000 in
/-- A frame has been put behind the others. -/
theorem q_pushed {w w6 w7 : World} {O : Nat → Prop} {q r : Nat} {s : F.Po} {lv v7 : Value} {f : F.Fr} (h : QAt w O q r s lv) (hA : Adds w w6) (hr : w7.ownsRow 0 136 5 v7 (s.L.length + 1) (fcs (s.L ++ [f]))) (hg : w6.grownBy w7 lv.ownBlock) (ha : v7.ownBlock = lv.ownBlock ∨ v7.ownBlock = some w6.heap.size) :
    w7.heap[q]? = some (QBox r s lv) ∧ ∃ O', IsQ (w7.setCell ⟨q, 4, none⟩ v7) O' q r { s with L := s.L ++ [f] } ∧ Qs w O (w7.setCell ⟨q, 4, none⟩ v7) O' := by
  have hT : Touch (fun k => lv.ownBlock = some k) w w7 := (hA.mono (fun _ _ c => c.elim)).trans (grown_touch hg)
  have z := hA.size
  obtain ⟨q1, O', h1, h2, h3⟩ := h.set hT (L := s.L ++ [f]) (v2 := v7) (by rw [List.length_append]; exact hr) (fun k hk => by
    rcases ha with c | c
    · exact .inl (by rw [← c]; exact hk)
    · rw [c] at hk
      have e : w6.heap.size = k := by simpa using hk
      exact .inr (by omega))
  exact ⟨q1, O', ⟨_, h1⟩, h2, h3⟩
theorem PQ11.of {w w' : World} {O O' : Nat → Prop} {q r : Nat} {s : F.Po} {v : Value} (h : IsQ w' O' q r s) (hs : Qs w O w' O') : PQ11 w O q r s v (.returned v) w' := ⟨rfl, O', h, hs.1, hs.2⟩
set_option maxRecDepth 100000 in
theorem qdrop_any {w : World} {O : Nat → Prop} {q r : Nat} {s : F.Po} {lv : Value} (h : QAt w O q r s lv) (hl : s.L.length ≤ 10000) (i : Int) (hi : i < (s.L.length : Int)) : Calls Tryz.prog 97 #[Ptr q, .int .i64 i] w (PQ11 w O q r { s with L := F.cutI s.L i } (.tuple #[])) := by
  by_cases h0 : i < 0
  · exact qdrop_no h i h0
  · obtain ⟨k, rfl⟩ : ∃ k : Nat, i = (k : Int) := ⟨i.toNat, by omega⟩
    exact qdrop_yes h hl k (by omega)
set_option maxRecDepth 100000 in
set_option maxHeartbeats 2000000 in
theorem qget_bad {w : World} {O : Nat → Prop} {q r : Nat} {s : F.Po} {lv : Value} (h : QAt w O q r s lv) (no : Int) (hno : F.inPool s no = false) : Calls Tryz.prog 103 #[Ptr q, .int .i64 no] w (PQ11 w O q r s (.tuple #[Str [], .int .i64 2])) := by
  have c2 : w.cell? ⟨q, 2, none⟩ = some (.int .i64 s.ct) := cellOf h.box 2
  have HQ := hid (PQ11.same (show IsQ w O q r s from ⟨lv, h⟩) (Touch.refl _ w) (.tuple #[Str [], .int .i64 2]))
  clear h
  have h3 : no < 0 ∨ s.ct ≤ no := by
    unfold F.inPool at hno
    simp at hno
    omega
  clear hno
  unfold Str Ptr at *
  by_cases h1 : no < 0
  · have d1 : decide (no < 0) = true := by simpa using h1
    go_enter Tryz.func103, Tryz.ntmps103
    go_wp2_with fail
    go_ret2
    exact HQ.out
  · have d1 : decide (no < 0) = false := by simpa using h1
    have d2 : decide (s.ct ≤ no) = true := by simp; omega
    go_enter Tryz.func103, Tryz.ntmps103
    go_wp2_with fail
    go_ret2
    exact HQ.out
set_option maxRecDepth 100000 in
set_option maxHeartbeats 4000000 in
theorem qget_held {w : World} {O : Nat → Prop} {q r : Nat} {s : F.Po} {lv : Value} (h : QAt w O q r s lv) (hO : ∀ k, O k → k < w.heap.size) (hl : s.L.length ≤ 9000) (no : Int) (hno : F.inPool s no = true) (i : Nat) (hi : i < s.L.length) (he : F.idx s.L no = (i : Int)) :
    Calls Tryz.prog 103 #[Ptr q, .int .i64 no] w (PQ11 w O q r { s with L := F.cutI s.L (i : Int) ++ [s.L[i]] } (.tuple #[Str s.L[i].now, .int .i64 0])) := by
  have c2 : w.cell? ⟨q, 2, none⟩ = some (.int .i64 s.ct) := cellOf h.box 2
  have h3 : 0 ≤ no ∧ no < s.ct := by simpa [F.inPool] using hno
  have d1 : decide (no < 0) = false := by simp; omega
  have d2 : decide (s.ct ≤ no) = false := by simp; omega
  have HF := hid (show Calls Tryz.prog 84 #[.pointer (some ⟨q, 0, none⟩), .int .i64 no] w (Tells (.int .i64 (i : Int)) w) by rw [← he]; exact qfind_any h no (by omega))
  obtain ⟨ao, cap, elv, hcap, hat⟩ := h.at'
  obtain ⟨g, ea, hob, hc, hfz⟩ := hat (by omega)
  subst ea
  obtain ⟨f, hf⟩ : ∃ f, f = s.L[i] := ⟨_, rfl⟩
  have hrr : Hid (w.rangeAt g (i * 5) (fc f)) := fun j v hv => by
    have hj : j < 5 := (List.getElem?_eq_some_iff.1 hv).1
    rw [hc i hi j hj, ← hf]
    exact hv
  rw [← hf]
  obtain ⟨n, hn⟩ : ∃ n, n = s.L.length := ⟨_, rfl⟩
  have d4 : w.cell? ⟨q, 4, none⟩ = some (.slice (some ⟨g, 0, none⟩) n cap) := by rw [hn, ← elv]; exact cellOf h.box 4
  have hin : i < n := by rw [hn]; exact hi
  have hnl : n ≤ 9000 := by rw [hn]; exact hl
  have hi53 := hid (infoFr f)
  have hset := set_fr w f
  have hzv := zeroFr
  have HQ := hid h
  have HOO := hid hO
  have HDr := hid (fun w' (hA : Adds w w') => show Calls Tryz.prog 97 #[.pointer (some ⟨q, 0, none⟩), .int .i64 (i : Int)] w' (PQ11 w' O q r { s with L := F.cutI s.L (i : Int) } (.tuple #[])) from qdrop_any (h.adds hA) (by omega) (i : Int) (by omega))
  have HLen := hid (show (F.cutI s.L (i : Int)).length ≤ 9000 from Nat.le_trans (F.cut_len _ _) hl)
  have hi0 : decide ((0 : Int) ≤ (i : Int)) = true := by simp
  unfold Str Ptr at *
  clear h hno h3 he hat hc hfz hob elv hf hn hcap hl hO
  go_enter Tryz.func103, Tryz.ntmps103
  go_upto_region 5 with (first | (go_at_call 84; refine HF.out.mono ?_; rintro e _ ⟨rfl, hw⟩; rw [hw]; clear hw))
  go_cut [7] (fun t7 w' => t7 = .pointer (some ⟨w.heap.size, 0, none⟩) ∧ w' = w.alloc (.cells (fc f).toArray 136))
  case first =>
    go_wp2_with (refine wpList_load_mid rfl 136 _ rfl g (i * 5) rfl (fc f) _ hrr.out Tryz.underlying136 rfl hi53.out ?_)
    go_meet
    case rel => exact ⟨rfl, rfl⟩
  case rest =>
    rename World => w5
    obtain ⟨hu7, hw5⟩ := hcut
    subst hu7
    obtain ⟨b, hb⟩ : ∃ b, b = w.heap.size := ⟨_, rfl⟩
    have HA5 := hid (show Adds w w5 by rw [hw5]; exact (Touch.refl _ w).alloc _)
    have HB5 := hid (show w5.heap[b]? = some (.cells (fc f).toArray 136 (0, 0)) by rw [hw5, hb]; exact heap_alloc_new w _)
    have HBz := hid (And.intro hb (show b < w5.heap.size by rw [hw5, hb]; simp))
    rw [← hb]
    have HD5 := hid (HDr.out w5 HA5.out)
    clear hset hrr hi53 hw5 hb d4 HDr
    go_upto_region 7 with (first | (go_at_call 97; refine HD5.out.mono ?_; rintro e w6a ⟨rfl, H6⟩))
    obtain ⟨O6, ⟨lv6, hq6⟩, hT6, hO6⟩ := H6.out
    have HQ6 := hid hq6
    have hb6 : ¬ O b := fun c => by have := HOO.out b c; have := HBz.out.1; omega
    have HB6 := hid (show w6a.heap[b]? = some (.cells (fc f).toArray 136 (0, 0)) from hT6.at' HB5.out hb6)
    have HNb := hid (show ¬ O6 b from fun c => by
      rcases hO6 b c with c | c
      · exact hb6 c
      · have := HBz.out.2; omega)
    have HQs := hid (show Qs w O w6a O6 from (Qs.adds O HA5.out).trans ⟨hT6, hO6⟩)
    have HS2 := hid (show (∀ w', Adds w6a w' → (fun w' : World => w'.heap[q]? = some (QBox r { s with L := F.cutI s.L (i : Int) } lv6) ∧ w'.heap[b]? = some (.cells (fc f).toArray 136 (0, 0))) w') ∧ (∀ w6 w7, Adds w6a w6 → w6.grownBy w7 lv6.ownBlock → (fun w' : World => w'.heap[q]? = some (QBox r { s with L := F.cutI s.L (i : Int) } lv6) ∧ w'.heap[b]? = some (.cells (fc f).toArray 136 (0, 0))) w7) from ⟨fun w' hA => ⟨(HQ6.out.adds hA).box, hA.at' HB6.out id⟩, fun w6 w7 hA hg => ⟨by
      have hT := (hA.mono (U := fun k => lv6.ownBlock = some k) (fun _ _ c => c.elim)).trans (grown_touch hg)
      exact hT.at' HQ6.out.box (fun c => HQ6.out.ne c rfl), by
      have hT := (hA.mono (U := fun k => lv6.ownBlock = some k) (fun _ _ c => c.elim)).trans (grown_touch hg)
      exact hT.at' HB6.out (fun c => HNb.out (HQ6.out.ol b c))⟩⟩)
    have HFin := hid (fun (w8 : World) (O8 : Nat → Prop) (h8 : IsQ w8 O8 q r { s with L := F.cutI s.L (i : Int) ++ [f] }) (hs : Qs w6a O6 w8 O8) => show PQ11 w O q r { s with L := F.cutI s.L (i : Int) ++ [f] } (.tuple #[.string ⟨f.now.toArray⟩, .int .i64 0]) (.returned (.tuple #[.string ⟨f.now.toArray⟩, .int .i64 0])) w8 from PQ11.of h8 (HQs.out.trans hs))
    have HLn6 := hid (show ({ s with L := F.cutI s.L (i : Int) } : F.Po).L.length + 1 ≤ 100000 by show (F.cutI s.L (i : Int)).length + 1 ≤ 100000; have := HLen.out; omega)
    clear hq6 hT6 hO6 hb6
    refine E_begin (S := fun w' : World => w'.heap[q]? = some (QBox r { s with L := F.cutI s.L (i : Int) } lv6) ∧ w'.heap[b]? = some (.cells (fc f).toArray 136 (0, 0))) (X := 10) (by kernel_rfl) ?_
    have hS0 : (fun w' : World => w'.heap[q]? = some (QBox r { s with L := F.cutI s.L (i : Int) } lv6) ∧ w'.heap[b]? = some (.cells (fc f).toArray 136 (0, 0))) w6a.drew := ⟨HQ6.out.box, HB6.out⟩
    refine E_put (i := 0) 36 (v := .pointer (some ⟨q, 0, none⟩)) rfl rfl (by kernel_rfl) (by kernel_rfl) (by kernel_rfl) (by kernel_rfl) (fun _ _ _ h => h) (Or.inl ⟨by rfl, fun w' hw' => ?_⟩) hS0 ?_
    · rfl
    simp only [Act.put, List.setIfInBounds_toArray, List.set_cons_zero, List.set_cons_succ]
    refine E_put (i := 1) 37 (v := .pointer (some ⟨q, 0, none⟩)) rfl rfl (by kernel_rfl) (by kernel_rfl) (by kernel_rfl) (by kernel_rfl) (fun _ _ _ h => h) (Or.inl ⟨by rfl, fun w' hw' => ?_⟩) hS0 ?_
    · rfl
    simp only [Act.put, List.setIfInBounds_toArray, List.set_cons_zero, List.set_cons_succ]
    refine E_put (i := 2) 38 (v := .pointer (some ⟨q, 0, none⟩)) rfl rfl (by kernel_rfl) (by kernel_rfl) (by kernel_rfl) (by kernel_rfl) (fun _ _ _ h => h) (Or.inl ⟨by rfl, fun w' hw' => ?_⟩) hS0 ?_
    · go_simp
    simp only [Act.put, List.setIfInBounds_toArray, List.set_cons_zero, List.set_cons_succ]
    refine E_put (i := 3) 39 (v := .pointer (some ⟨q, 4, none⟩)) rfl rfl (by kernel_rfl) (by kernel_rfl) (by kernel_rfl) (by kernel_rfl) (fun _ _ _ h => h) (Or.inl ⟨by rfl, fun w' hw' => ?_⟩) hS0 ?_
    · go_simp
    simp only [Act.put, List.setIfInBounds_toArray, List.set_cons_zero, List.set_cons_succ]
    refine E_put (i := 4) 40 (v := lv6) rfl rfl (by kernel_rfl) (by kernel_rfl) (by kernel_rfl) (by kernel_rfl) (fun _ _ _ h => h) (Or.inl ⟨by rfl, fun w' hw' => ?_⟩) hS0 ?_
    · (have c := cellOf hw'.1 4; clear hw'; go_simp)
    simp only [Act.put, List.setIfInBounds_toArray, List.set_cons_zero, List.set_cons_succ]
    refine E_put (i := 5) 41 (v := .agg (fc f).toArray) rfl rfl (by kernel_rfl) (by kernel_rfl) (by kernel_rfl) (by kernel_rfl) (fun _ _ _ h => h) (yieldsIf_load_mid (by rfl) 136 (.tmp 7) rfl b 0 rfl (fc f) _ (fun w' hw' => range_box hw'.2) Tryz.underlying136 rfl (infoFr f)) hS0 ?_
    simp only [Act.put, List.setIfInBounds_toArray, List.set_cons_zero, List.set_cons_succ]
    obtain ⟨w6, hw6⟩ : ∃ w6, w6 = w6a.drew.alloc (.cells (fc f).toArray 136) := ⟨_, rfl⟩
    have hA6 : Adds w6a w6 := by rw [hw6]; exact (Touch.refl _ w6a).drew.alloc _
    have hN6 : w6.heap[w6a.heap.size]? = some (.cells (fc f).toArray 136 (0, 0)) := by rw [hw6]; exact heap_alloc_new w6a.drew _
    have HZ6 := hid (show w6.heap.size = w6a.heap.size + 1 by rw [hw6]; simp)
    have hS6 := HS2.out.1 w6 hA6
    refine E_do (i := 6) (some 42) (by kernel_rfl) rfl rfl rfl (fun K hK => ?_)
    refine wp_buildSlice 90 1 0 (.tmp 41) rfl rfl (build_fr f _) ?_
    rw [← hw6]
    refine hK _ _ (fun _ => hS6) ?_
    clear hK K
    simp only [Act.put, List.setIfInBounds_toArray, List.set_cons_zero, List.set_cons_succ]
    have HA6 := hid hA6
    have HN6 := hid hN6
    clear hw6 hA6 hN6 hS0
    refine E_do (i := 7) (some 43) (by kernel_rfl) rfl rfl rfl (fun K hK => ?_)
    refine wp_append_fr _ _ rfl 0 lv6 _ _ rfl (HQ6.out.adds HA6.out).row ⟨w6a.heap.size, 0, none⟩ 1 1 [f] rfl rfl (box_cells HN6.out) HLn6.out (Nat.zero_le _) ?_
    intro v7 w7 hr7 hg7 ha7
    obtain ⟨hb7, hp7⟩ := q_pushed HQ6.out HA6.out hr7 hg7 ha7
    have hS7 := HS2.out.2 w6 w7 HA6.out hg7
    obtain ⟨va7, vc7, ev7⟩ := row_form hr7
    subst ev7
    refine hK _ _ (fun _ => hS7) ?_
    clear hK K
    simp only [Act.put, List.setIfInBounds_toArray, List.set_cons_zero, List.set_cons_succ]
    have HP7 := hid hp7
    have HG7 := hid hg7
    have c47 := cellOf hb7 4
    have f47 := frozen_of_row w7 q 4 _ 92 hb7
    clear hr7 hg7 ha7 hp7 hb7
    refine E_do (i := 8) (some 44) (by kernel_rfl) rfl rfl rfl (fun K hK => ?_)
    go_simp
    refine hK (.pointer (some ⟨q, 0, none⟩)) _ (fun _ => hS7) ?_
    clear hK K
    simp only [Act.put, List.setIfInBounds_toArray, List.set_cons_zero, List.set_cons_succ]
    refine E_do (i := 9) (some 45) (by kernel_rfl) rfl rfl rfl (fun K hK => ?_)
    go_simp
    refine hK (.pointer (some ⟨q, 4, none⟩)) _ (fun _ => hS7) ?_
    clear hK K
    simp only [Act.put, List.setIfInBounds_toArray, List.set_cons_zero, List.set_cons_succ]
    refine E_do (i := 10) none (by kernel_rfl) rfl rfl rfl (fun K hK => ?_)
    go_simp
    refine hK undef _ (fun h => absurd rfl h) ?_
    clear hK K hS7
    simp only [Act.put]
    refine E_done (by kernel_rfl) ?_ _
    clear c47 f47
    obtain ⟨w8, hw8⟩ : ∃ w8, w7.setCell ⟨q, 4, none⟩ (.slice va7 (({ s with L := F.cutI s.L (i : Int) } : F.Po).L.length + 1) vc7) = w8 := ⟨_, rfl⟩
    rw [hw8] at HP7 ⊢
    have g1 : w8.cell? ⟨b, 1, none⟩ = some (.string ⟨f.now.toArray⟩) := by
      obtain ⟨O8, _, hs8⟩ := HP7.out
      exact cellOf (hs8.1.at' HB6.out HNb.out) 1
    clear hw8
    go_wp2_with fail
    go_ret2
    obtain ⟨O8, h8, hs8⟩ := HP7.out
    exact HFin.out w8 O8 h8 hs8
end Go.Proofs.YtjlennpoaefllaaGreatDoor
