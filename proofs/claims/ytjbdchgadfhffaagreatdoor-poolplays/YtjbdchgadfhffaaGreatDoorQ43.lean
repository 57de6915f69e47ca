/- Texts put together: FQ0, FQ1, FQ2. -/
import Derived.Test.YtjbdchgadfhffaaGreatDoorQ20
import Derived.Test.YtjbdchgadfhffaaGreatDoorQ33
import Derived.Test.YtjbdchgadfhffaaGreatDoorQ42
import Derived.Maps.AppendAt
import Derived.BigQuiet
/- The reference's pool in memory. -/
namespace Go.Proofs.YtjbdchgadfhffaaGreatDoor
open Go.RowKit

/-- A frame's cells. -/
def fc (f : F.Fr) : List Value := [.int .i64 f.no, Str f.now, Str f.was, .bool f.fresh, .bool f.dirty]
def fcs (L : List F.Fr) : List Value := L.flatMap fc
theorem fcs_len : ∀ (L : List F.Fr), (fcs L).length = L.length * 5
  | [] => rfl
  | x :: L => by
    have := fcs_len L
    simp only [fcs, List.flatMap_cons, List.length_append, List.length_cons] at this ⊢
    rw [this]; simp [fc]; omega
theorem fcs_get : ∀ (L : List F.Fr) (k : Nat) (hk : k < L.length) (j : Nat), j < 5 → (fcs L)[k * 5 + j]? = (fc L[k])[j]?
  | [], k, hk, _, _ => absurd hk (by simp)
  | x :: L, 0, _, j, hj => by
    simp only [fcs, List.flatMap_cons, Nat.zero_mul, Nat.zero_add, List.getElem_cons_zero]
    rw [List.getElem?_append_left (by simp [fc]; exact hj)]
  | x :: L, k + 1, hk, j, hj => by
    have ih := fcs_get L k (by simpa using hk) j hj
    simp only [fcs, List.flatMap_cons] at ih ⊢
    rw [List.getElem?_append_right (by simp [fc]; omega), show (fc x).length = 5 from rfl, show (k + 1) * 5 + j - 5 = k * 5 + j by omega, ih, List.getElem_cons_succ]
set_option maxRecDepth 100000 in
theorem fcs_app (L K : List F.Fr) : fcs (L ++ K) = fcs L ++ fcs K := by simp [fcs]
set_option maxRecDepth 100000 in
theorem fcs_one (f : F.Fr) : fcs [f] = fc f := by simp [fcs]
set_option maxRecDepth 100000 in
theorem fcs_take (L : List F.Fr) (k : Nat) (h : k ≤ L.length) : (fcs L).take (k * 5) = fcs (L.take k) := by
  have e : fcs L = fcs (L.take k) ++ fcs (L.drop k) := by rw [← fcs_app, List.take_append_drop]
  rw [e, List.take_left' (by rw [fcs_len, List.length_take]; omega)]
set_option maxRecDepth 100000 in
theorem fcs_drop (L : List F.Fr) (k : Nat) (h : k ≤ L.length) : (fcs L).drop (k * 5) = fcs (L.drop k) := by
  have e : fcs L = fcs (L.take k) ++ fcs (L.drop k) := by rw [← fcs_app, List.take_append_drop]
  rw [e, List.drop_left' (by rw [fcs_len, List.length_take]; omega)]
theorem one_fcs (L : List F.Fr) : ∀ u ∈ fcs L, u.oneCell' = true := fun u hu => by
  obtain ⟨f, _, hu⟩ := List.mem_flatMap.1 hu
  simp only [fc, List.mem_cons, List.not_mem_nil, or_false] at hu
  rcases hu with rfl | rfl | rfl | rfl | rfl <;> rfl
set_option maxRecDepth 100000 in
theorem infoFrame : ∃ i, Tryz.prog.info? 107 = some i ∧ i.zero = some (.agg #[.int .i64 0, Str [], Str [], .bool false, .bool false]) ∧ i.size = 5 ∧ i.bytes = 48 := by
  have h : (Tryz.prog.info? 107).map (fun i => (i.zero, i.size, i.bytes)) = some (some (.agg #[.int .i64 0, Str [], Str [], .bool false, .bool false]), 5, 48) := by kernel_rfl
  cases hq : Tryz.prog.info? 107 with
  | none => rw [hq] at h; cases h
  | some i =>
    rw [hq] at h
    simp only [Option.map_some, Option.some.injEq, Prod.mk.injEq] at h
    exact ⟨i, rfl, h.1, h.2.1, h.2.2⟩
/-- The reference's struct. -/
abbrev QBox (r : Nat) (s : F.Po) (lv : Value) : Obj := .cells #[Ptr r, .int .i64 s.fr, .int .i64 s.ct, .int .i64 s.mo, lv] 79 (0, 0)
/-- At q lies the reference's pool on the disk r, in the state s. -/
structure QAt (w : World) (O : Nat → Prop) (q r : Nat) (s : F.Po) (lv : Value) : Prop where
  box : w.heap[q]? = some (QBox r s lv)
  row : w.ownsRow 0 107 5 lv s.L.length (fcs s.L)
  oq : O q
  ol : ∀ k, lv.ownBlock = some k → O k
def IsQ (w : World) (O : Nat → Prop) (q r : Nat) (s : F.Po) : Prop := ∃ lv, QAt w O q r s lv
theorem QAt.touch {w w' : World} {O T : Nat → Prop} {q r : Nat} {s : F.Po} {lv : Value} (h : QAt w O q r s lv) (hT : Touch T w w') (hn : ∀ k, O k → ¬ T k) : QAt w' O q r s lv :=
  ⟨by rw [hT.block q (Array.getElem?_eq_some_iff.1 h.box).1 (hn _ h.oq)]; exact h.box, own_kept h.row hT (fun k hk => hn k (h.ol k hk)), h.oq, h.ol⟩
theorem QAt.adds {w w' : World} {O : Nat → Prop} {q r : Nat} {s : F.Po} {lv : Value} (h : QAt w O q r s lv) (hT : Adds w w') : QAt w' O q r s lv := h.touch hT (fun _ _ => id)
set_option maxRecDepth 100000 in
theorem IsQ.touch {w w' : World} {O T : Nat → Prop} {q r : Nat} {s : F.Po} (h : IsQ w O q r s) (hT : Touch T w w') (hn : ∀ k, O k → ¬ T k) : IsQ w' O q r s := by
  obtain ⟨lv, h⟩ := h
  exact ⟨lv, h.touch hT hn⟩
theorem IsQ.adds {w w' : World} {O : Nat → Prop} {q r : Nat} {s : F.Po} (h : IsQ w O q r s) (hT : Adds w w') : IsQ w' O q r s := h.touch hT (fun _ _ => id)
theorem QAt.mono {w : World} {O O' : Nat → Prop} {q r : Nat} {s : F.Po} {lv : Value} (h : QAt w O q r s lv) (hn : ∀ k, O k → O' k) : QAt w O' q r s lv := ⟨h.box, h.row, hn _ h.oq, fun k hk => hn k (h.ol k hk)⟩
set_option maxRecDepth 100000 in
theorem QAt.ne {w : World} {O : Nat → Prop} {q r : Nat} {s : F.Po} {lv : Value} (h : QAt w O q r s lv) {k : Nat} (hk : lv.ownBlock = some k) : k ≠ q := by
  intro e
  subst e
  obtain ⟨c, hc⟩ := own_type h.row hk
  rw [h.box] at hc
  simp at hc
set_option maxRecDepth 100000 in
/-- Where the frames lie. -/
theorem QAt.at' {w : World} {O : Nat → Prop} {q r : Nat} {s : F.Po} {lv : Value} (h : QAt w O q r s lv) : ∃ ao cap, lv = .slice ao s.L.length cap ∧ s.L.length ≤ cap ∧
    (0 < s.L.length → ∃ g, ao = some ⟨g, 0, none⟩ ∧ lv.ownBlock = some g ∧ (∀ k (hk : k < s.L.length) j, j < 5 → w.cell? ⟨g, k * 5 + j, none⟩ = (fc s.L[k])[j]?) ∧ (∀ i, w.frozen? ⟨g, i, none⟩ = false)) := by
  rcases h.row.2 with ⟨e, hn⟩ | ⟨g, cap, cur, e, _, hgg, hnc, _⟩
  · exact ⟨none, 0, by rw [e, hn], by omega, fun h0 => by omega⟩
  · have hh := h.row
    rw [e] at hh
    refine ⟨some ⟨g, 0, none⟩, cap, e, hnc, fun _ => ⟨g, rfl, by rw [e]; rfl, fun k hk j hj => ?_, fun i => hh.frozenAt i⟩⟩
    rw [hh.cellAt (k * 5 + j) (by omega), fcs_get s.L k hk j hj]
/-- What a call of the reference's pool leaves. -/
def PQ11 (w : World) (O : Nat → Prop) (q r : Nat) (s : F.Po) (v : Value) (e : Ending) (w' : World) : Prop := e = .returned v ∧ Hid (∃ O', IsQ w' O' q r s ∧ Touch O w w' ∧ ∀ k, O' k → O k ∨ (w.heap.size ≤ k ∧ k < w'.heap.size))
theorem PQ11.same {w w' : World} {O : Nat → Prop} {q r : Nat} {s : F.Po} (h : IsQ w O q r s) (hA : Adds w w') (v : Value) : PQ11 w O q r s v (.returned v) w' := ⟨rfl, O, h.adds hA, hA.mono (fun _ _ c => c.elim), fun _ c => .inl c⟩
namespace F
/-- Where a page's frame stands. -/
def idx (L : List Fr) (no : Int) : Int := match L.findIdx? (fun f => decide (f.no = no)) with
  | some i => (i : Int)
  | none => -1
set_option maxRecDepth 100000 in
theorem idx_hit {L : List Fr} {no : Int} {i : Nat} (hi : i < L.length) (h : L[i].no = no) (hb : ∀ j (hj : j < i), (L[j]'(by omega)).no ≠ no) : idx L no = (i : Int) := by
  have : L.findIdx? (fun f => decide (f.no = no)) = some i := by
    rw [List.findIdx?_eq_some_iff_getElem]
    exact ⟨hi, by simp [h], fun j hj => by simpa using hb j hj⟩
  unfold idx
  rw [this]
set_option maxRecDepth 100000 in
theorem idx_miss {L : List Fr} {no : Int} (h : ∀ f ∈ L, f.no ≠ no) : idx L no = -1 := by
  have : L.findIdx? (fun f => decide (f.no = no)) = none := by
    rw [List.findIdx?_eq_none_iff]
    intro f hf
    simpa using h f hf
  unfold idx
  rw [this]
set_option maxRecDepth 100000 in
/-- A page that is held, or not. -/
theorem idx_is (L : List Fr) (no : Int) : (∃ i, ∃ hi : i < L.length, idx L no = (i : Int) ∧ L[i].no = no ∧ at? L no = some L[i]) ∨ (idx L no = -1 ∧ at? L no = none ∧ ∀ f ∈ L, f.no ≠ no) := by
  cases h : L.findIdx? (fun f => decide (f.no = no)) with
  | some i =>
    obtain ⟨hi, h1, h2⟩ := List.findIdx?_eq_some_iff_getElem.1 h
    refine .inl ⟨i, hi, by unfold idx; rw [h], by simpa using h1, ?_⟩
    unfold at?
    rw [List.find?_eq_some_iff_getElem]
    exact ⟨h1, i, hi, rfl, fun j hj => by simpa using h2 j hj⟩
  | none =>
    have h1 := List.findIdx?_eq_none_iff.1 h
    have h2 : ∀ f ∈ L, f.no ≠ no := fun f hf => by simpa using h1 f hf
    refine .inr ⟨by unfold idx; rw [h], ?_, h2⟩
    unfold at?
    rw [List.find?_eq_none]
    intro f hf
    simpa using h2 f hf
/-- Which frame is given up: -1, none has to be; -2, none can be. -/
def outI (s : Po) : Int := if (s.L.length : Int) < s.mo then -1 else match s.L.findIdx? clean with
  | some i => (i : Int)
  | none => -2
/-- A frame is taken away. -/
def cutI (L : List Fr) (i : Int) : List Fr := if 0 ≤ i then L.take i.toNat ++ L.drop (i.toNat + 1) else L
end F
end Go.Proofs.YtjbdchgadfhffaaGreatDoor

/- The reference's calls find, out and drop. -/
namespace Go.Proofs.YtjbdchgadfhffaaGreatDoor
open Go.RowKit

set_option maxRecDepth 100000 in
set_option maxHeartbeats 2000000 in
theorem qfind_any {w : World} {O : Nat → Prop} {q r : Nat} {s : F.Po} {lv : Value} (h : QAt w O q r s lv) (no : Int) (hl : s.L.length ≤ 10000) : Calls Tryz.prog 56 #[Ptr q, .int .i64 no] w (Tells (.int .i64 (F.idx s.L no)) w) := by
  have c4 : w.cell? ⟨q, 4, none⟩ = some lv := cellOf h.box 4
  obtain ⟨ao, cap, rfl, hcap, hat⟩ := h.at'
  have HAt := hid hat
  have HM := hid (fun h => @F.idx_miss s.L no h)
  have HH := hid (fun i hi h hb => @F.idx_hit s.L no i hi h hb)
  clear h hat
  obtain ⟨n, hn⟩ : ∃ n, n = s.L.length := ⟨_, rfl⟩
  have HN := hid hn
  rw [← hn] at c4 hl hcap
  obtain ⟨z, hz⟩ : ∃ z, z = F.idx s.L no := ⟨_, rfl⟩
  have HZ := hid hz
  rw [← hz]
  clear hz hn
  unfold Ptr
  go_enter Tryz.func56, Tryz.ntmps56
  go_wp2_with fail
  go_loopw [5] (fun iv wr => ∃ i : Nat, iv = .int .i64 (i : Int) ∧ i ≤ n ∧ wr = w ∧ Hid (∀ j (hj : j < s.L.length), j < i → (s.L[j]).no ≠ no)) (fun iv _ => n - (intOf iv).toNat)
  case atStart => exact ⟨0, rfl, Nat.zero_le _, rfl, fun j _ hj => by omega⟩
  case round =>
    obtain ⟨i, rfl, hi, rfl, HB⟩ := hrel
    by_cases hlt : i < n
    · have hltz : (i : Int) < (n : Int) := by omega
      have hi' : i < s.L.length := by rw [← HN.out]; exact hlt
      obtain ⟨g, ea, _, hc, _⟩ := HAt.out (by omega)
      subst ea
      have e0 : wr.cell? ⟨g, i * 5, none⟩ = some (.int .i64 (s.L[i]).no) := hc i hi' 0 (by omega)
      obtain ⟨k, hk⟩ : ∃ k, k = (s.L[i]).no := ⟨_, rfl⟩
      rw [← hk] at e0
      have HK := hid hk
      clear hc hk
      by_cases hq : k = no
      · subst hq
        have hqq : (k == k) = true := by simp
        go_wp2_with fail
        go_ret
        exact ⟨by rw [HZ.out, HH.out i hi' HK.out.symm (fun j hj => HB.out j (by omega) hj)]; rfl, rfl⟩
      · have hqq : (k == no) = false := by simpa using hq
        go_wp2_with fail
        go_roundw
        case rel =>
          refine ⟨i + 1, by go_num, by omega, trivial, fun j hj hji => ?_⟩
          by_cases e : j = i
          · subst e; rw [← HK.out]; exact hq
          · exact HB.out j hj (by omega)
        case measure => simp [intOf]; omega
    · have hltz : ¬ (i : Int) < (n : Int) := by omega
      go_wp2_with fail
      go_ret
      have e : z = -1 := by
        rw [HZ.out]
        refine HM.out (fun f hf => ?_)
        obtain ⟨j, hj, rfl⟩ := List.mem_iff_getElem.1 hf
        exact HB.out j hj (by have := HN.out; omega)
      rw [e]
      exact ⟨rfl, rfl⟩
set_option maxRecDepth 100000 in
set_option maxHeartbeats 2000000 in
theorem qout_any {w : World} {O : Nat → Prop} {q r : Nat} {s : F.Po} {lv : Value} (h : QAt w O q r s lv) (hl : s.L.length ≤ 10000) : Calls Tryz.prog 57 #[Ptr q] w (Adding (.int .i64 (F.outI s)) w) := by
  have c3 : w.cell? ⟨q, 3, none⟩ = some (.int .i64 s.mo) := cellOf h.box 3
  have c4 : w.cell? ⟨q, 4, none⟩ = some lv := cellOf h.box 4
  have HB0 := hid h
  obtain ⟨ao, cap, rfl, hcap, hat⟩ := h.at'
  have HE : Hid (F.outI s = if (s.L.length : Int) < s.mo then -1 else match s.L.findIdx? F.clean with
    | some i => (i : Int)
    | none => -2) := rfl
  clear h hat
  obtain ⟨n, hn⟩ : ∃ n, n = s.L.length := ⟨_, rfl⟩
  have HN := hid hn
  rw [← hn] at c4 hl hcap HE
  obtain ⟨z, hz⟩ : ∃ z, z = F.outI s := ⟨_, rfl⟩
  have HZ := hid hz
  rw [← hz]
  clear hz hn
  unfold Ptr
  by_cases hm : (n : Int) < s.mo
  · have e : z = -1 := by rw [HZ.out, HE.out, if_pos hm]
    rw [e]
    have hd : decide ((n : Int) < s.mo) = true := decide_eq_true hm
    go_enter Tryz.func57, Tryz.ntmps57
    go_upto_region 1 with fail
    go_quiet (fail)
    go_wp2
    go_ret
    exact ⟨rfl, adds_drewN w _⟩
  · have hd : decide ((n : Int) < s.mo) = false := decide_eq_false hm
    have HE2 := hid (show F.outI s = match s.L.findIdx? F.clean with
      | some i => (i : Int)
      | none => -2 by rw [HE.out, if_neg hm])
    clear HE hm
    go_enter Tryz.func57, Tryz.ntmps57
    go_upto_region 1 with fail
    go_quiet (fail)
    go_wp2
    go_loopw [3] (fun iv wr => ∃ i : Nat, iv = .int .i64 (i : Int) ∧ i ≤ n ∧ Hid (Adds w wr) ∧ Hid (∀ j (hj : j < s.L.length), j < i → F.clean s.L[j] = false)) (fun iv _ => n - (intOf iv).toNat)
    case atStart => exact ⟨0, rfl, Nat.zero_le _, adds_drewN w _, fun j _ hj => by omega⟩
    case round =>
      obtain ⟨i, rfl, hi, HA, HB⟩ := hrel
      have hq := HB0.out.adds HA.out
      have d4 : wr.cell? ⟨q, 4, none⟩ = some (.slice ao n cap) := by have := cellOf hq.box 4; rw [← HN.out] at this; exact this
      by_cases hlt : i < n
      · have hltz : (i : Int) < (n : Int) := by omega
        have hi' : i < s.L.length := by rw [← HN.out]; exact hlt
        obtain ⟨ao', cap', e', _, hat⟩ := hq.at'
        obtain ⟨g, ea, _, hc, _⟩ := hat (by omega)
        cases e'
        subst ea
        have e3 : wr.cell? ⟨g, i * 5 + 3, none⟩ = some (.bool (s.L[i]).fresh) := hc i hi' 3 (by omega)
        have e4 : wr.cell? ⟨g, i * 5 + 4, none⟩ = some (.bool (s.L[i]).dirty) := hc i hi' 4 (by omega)
        have HC : Hid (F.clean s.L[i] = (!(s.L[i]).fresh && !(s.L[i]).dirty)) := rfl
        obtain ⟨f, hf⟩ : ∃ f, f = (s.L[i]).fresh := ⟨_, rfl⟩
        obtain ⟨d, hd⟩ : ∃ d, d = (s.L[i]).dirty := ⟨_, rfl⟩
        rw [← hf] at e3 HC
        rw [← hd] at e4 HC
        clear hq hc hat hf hd
        cases f with
        | true =>
          go_wp2_with fail
          go_roundw
          case rel =>
            refine ⟨i + 1, by go_num, by omega, HA.out, fun j hj hji => ?_⟩
            by_cases e : j = i
            · subst e; rw [HC.out]; rfl
            · exact HB.out j hj (by omega)
          case measure => simp [intOf]; omega
        | false =>
          cases d with
          | true =>
            go_wp2_with fail
            go_roundw
            case rel =>
              refine ⟨i + 1, by go_num, by omega, HA.out, fun j hj hji => ?_⟩
              by_cases e : j = i
              · subst e; rw [HC.out]; rfl
              · exact HB.out j hj (by omega)
            case measure => simp [intOf]; omega
          | false =>
            go_wp2_with fail
            go_ret
            have e : z = (i : Int) := by
              have : s.L.findIdx? F.clean = some i := by
                rw [List.findIdx?_eq_some_iff_getElem]
                exact ⟨hi', by rw [HC.out]; rfl, fun j hj => by simpa using HB.out j (by omega) hj⟩
              rw [HZ.out, HE2.out, this]
            rw [e]
            exact ⟨rfl, HA.out⟩
      · have hltz : ¬ (i : Int) < (n : Int) := by omega
        clear hq
        go_wp2_with fail
        go_ret
        have e : z = -2 := by
          have : s.L.findIdx? F.clean = none := by
            rw [List.findIdx?_eq_none_iff]
            intro f hf
            obtain ⟨j, hj, rfl⟩ := List.mem_iff_getElem.1 hf
            exact HB.out j hj (by have := HN.out; omega)
          rw [HZ.out, HE2.out, this]
        rw [e]
        exact ⟨rfl, HA.out⟩
end Go.Proofs.YtjbdchgadfhffaaGreatDoor

/- The reference's frames: one is taken away. -/
namespace Go.Proofs.YtjbdchgadfhffaaGreatDoor
open Go.RowKit

set_option maxRecDepth 100000 in
theorem own_low {w : World} {B : Nat} {e : TypeId} {size : Nat} {v : Value} {n : Nat} {xs : List Value} (h : w.ownsRow B e size v n xs) {k : Nat} (hk : v.ownBlock = some k) : B ≤ k ∧ k < w.heap.size := by
  rcases h.2 with ⟨rfl, _⟩ | ⟨g, cap, cur, rfl, hb, hg, _⟩
  · cases hk
  · obtain rfl : g = k := by simpa [Value.ownBlock] using hk
    exact ⟨hb, (Array.getElem?_eq_some_iff.1 hg).1⟩
set_option maxRecDepth 100000 in
theorem own_down {w : World} {B : Nat} {e : TypeId} {size : Nat} {v : Value} {n : Nat} {xs : List Value} (h : w.ownsRow B e size v n xs) : w.ownsRow 0 e size v n xs := by
  refine ⟨h.1, ?_⟩
  rcases h.2 with hq | ⟨g, cap, cur, e1, hb, rest⟩
  · exact .inl hq
  · exact .inr ⟨g, cap, cur, e1, Nat.zero_le _, rest⟩
theorem grown_touch {w w' : World} {v : Value} (hg : w.grownBy w' v.ownBlock) : Touch (fun k => v.ownBlock = some k) w w' := ⟨hg.os, hg.tape, hg.output, hg.size, fun k hk hn => hg.block k hk (fun e => hn e.symm)⟩
set_option maxRecDepth 100000 in
/-- Frames are put behind frames. -/
theorem append_fr {w : World} {ops : Array Oper} {rest : List Oper} {o : Oper} {act : Act} {Q : Exit → Act → World → Prop} (hgd : o.guard = none) (s x : Operand)
    (ho : o.op = .call { callee := .builtin .append, args := #[s, x], argTypes := #[77, 77] }) (B : Nat) (v : Value) (n : Nat) (L : List F.Fr) (hs : act.eval s = v) (hown : w.ownsRow B 107 5 v n (fcs L))
    (ad : Addr) (m c : Nat) (K : List F.Fr) (hm : K.length = m) (hx : act.eval x = .slice (some ad) m c) (hK : ∀ j u, (fcs K)[j]? = some u → w.cell? (ad.add j) = some u) (hlen : n + m ≤ 100000) (hB : B ≤ w.heap.size)
    (h : ∀ v' w', w'.ownsRow B 107 5 v' (n + m) (fcs (L ++ K)) → w.grownBy w' v.ownBlock → (v'.ownBlock = v.ownBlock ∨ v'.ownBlock = some w.heap.size) → wpList Tryz.prog ops Q rest (act.put o.dst v') w') : wpList Tryz.prog ops Q (o :: rest) act w := by
  obtain ⟨i0, hi, hz0, hz1, hz2⟩ := infoFrame
  refine wpList_append_own_at _ hgd s x 77 ho B 107 i0 _ 5 48 Tryz.underlying77 hi hz0 hz1 hz2 rfl (by decide) v n (fcs L) hs hown ad m c (fcs K) hx (by rw [fcs_len, hm]) hK (one_fcs K) (by unfold maxLen; omega) (by omega) hB (fun v' w' h1 h2 _ h4 => h v' w' (by rw [fcs_app]; exact h1) h2 h4)
set_option maxRecDepth 100000 in
/-- A list of frames is set. -/
theorem QAt.set {w w2 : World} {O : Nat → Prop} {q r : Nat} {s : F.Po} {lv v2 : Value} {L : List F.Fr} (h : QAt w O q r s lv) (hT : Touch (fun k => lv.ownBlock = some k) w w2) (hrow : w2.ownsRow 0 107 5 v2 L.length (fcs L)) (hat : ∀ k, v2.ownBlock = some k → lv.ownBlock = some k ∨ w.heap.size ≤ k) :
    w2.heap[q]? = some (QBox r s lv) ∧ ∃ O', QAt (w2.setCell ⟨q, 4, none⟩ v2) O' q r { s with L := L } v2 ∧ Touch O w (w2.setCell ⟨q, 4, none⟩ v2) ∧ ∀ k, O' k → O k ∨ (w.heap.size ≤ k ∧ k < (w2.setCell ⟨q, 4, none⟩ v2).heap.size) := by
  have hb : w2.heap[q]? = some (QBox r s lv) := by rw [hT.block q (Array.getElem?_eq_some_iff.1 h.box).1 (fun e => h.ne e rfl)]; exact h.box
  have hT2 : Touch (fun k => k = q) w2 (w2.setCell ⟨q, 4, none⟩ v2) := Touch.setCell (T := fun k => k = q) (Touch.refl _ w2) (p := ⟨q, 4, none⟩) (fun _ => rfl) _
  refine ⟨hb, fun k => O k ∨ v2.ownBlock = some k, ⟨heap_setCell_same w2 q 4 _ 79 _ hb, own_kept hrow hT2 (fun k hk e => ?_), .inl h.oq, fun k hk => .inr hk⟩, ?_, fun k c => ?_⟩
  · subst e
    obtain ⟨c, hc⟩ := own_type hrow hk
    rw [hb] at hc
    simp at hc
  · exact (hT.mono (fun k _ e => h.ol k e)).trans (hT2.mono (fun k _ e => by rw [e]; exact h.oq))
  · rcases c with c | c
    · exact .inl c
    · rcases hat k c with c' | c'
      · exact .inl (h.ol k c')
      · exact .inr ⟨c', Nat.lt_of_lt_of_le (own_low hrow c).2 hT2.size⟩
set_option maxRecDepth 100000 in
theorem sizeFrame (w : World) : (sizeOf 107).run Tryz.prog w = .ok 5 w := by kernel_rfl
set_option maxRecDepth 100000 in
theorem elemFrame : Tryz.prog.elem 77 = 107 := by kernel_rfl
set_option maxRecDepth 100000 in
theorem run_preQ (g len cap n : Nat) (hn : n ≤ cap) (w : World) : (Instr.sliceAt 77 (.slice (some ⟨g, 0, none⟩) len cap) none (some (.int .i64 (n : Int))) none).run Tryz.prog w = .ok (.slice (some ⟨g, 0, none⟩) n cap) w := by
  rw [run_sliceAt_slice w 77 _ _ _ _ Tryz.underlying77, run_slice_h w 77 _ len cap Tryz.underlying77 .i64 n (by omega) (by omega)]
  rw [elemFrame, sizeFrame]
  simp only [Result.andThen, sliced, Int.toNat_natCast, Nat.zero_mul, Nat.sub_zero]
  congr 2
  split
  · rfl
  · rfl
def sufQ (g cap n : Nat) : Addr := if cap = n then ⟨g, 0, none⟩ else ⟨g, n * 5, none⟩
set_option maxRecDepth 100000 in
theorem run_sufQ (g len cap n : Nat) (hn : n ≤ len) (w : World) : (Instr.sliceAt 77 (.slice (some ⟨g, 0, none⟩) len cap) (some (.int .i64 (n : Int))) none none).run Tryz.prog w = .ok (.slice (some (sufQ g cap n)) (len - n) (cap - n)) w := by
  rw [run_sliceAt_slice w 77 _ _ _ _ Tryz.underlying77, run_slice_l w 77 _ len cap Tryz.underlying77 .i64 n (by omega) (by omega)]
  rw [elemFrame, sizeFrame]
  simp only [Result.andThen, sliced, Int.toNat_natCast]
  unfold sufQ
  split
  · rfl
  · simp [Addr.add]
    omega
set_option maxRecDepth 100000 in
set_option maxHeartbeats 2000000 in
theorem qdrop_no {w : World} {O : Nat → Prop} {q r : Nat} {s : F.Po} {lv : Value} (h : QAt w O q r s lv) (i : Int) (hi : i < 0) : Calls Tryz.prog 58 #[Ptr q, .int .i64 i] w (PQ11 w O q r { s with L := F.cutI s.L i } (.tuple #[])) := by
  have e : ({ s with L := F.cutI s.L i } : F.Po) = s := by unfold F.cutI; rw [if_neg (by omega)]
  rw [e]
  have HQ := hid (PQ11.same (show IsQ w O q r s from ⟨lv, h⟩) (Touch.refl _ w) (.tuple #[]))
  have hd : decide ((0 : Int) ≤ i) = false := by simp; omega
  clear h e
  go_enter Tryz.func58, Tryz.ntmps58
  go_wp2_with fail
  go_end0
  exact HQ.out
set_option maxRecDepth 100000 in
set_option maxHeartbeats 2000000 in
theorem qdrop_yes {w : World} {O : Nat → Prop} {q r : Nat} {s : F.Po} {lv : Value} (h : QAt w O q r s lv) (hl : s.L.length ≤ 10000) (i : Nat) (hi : i < s.L.length) : Calls Tryz.prog 58 #[Ptr q, .int .i64 (i : Int)] w (PQ11 w O q r { s with L := F.cutI s.L (i : Int) } (.tuple #[])) := by
  have e : F.cutI s.L (i : Int) = s.L.take i ++ s.L.drop (i + 1) := by unfold F.cutI; rw [if_pos (by omega), Int.toNat_natCast]
  rw [e]
  clear e
  obtain ⟨ao, cap, rfl, hcap, hat⟩ := h.at'
  obtain ⟨g, rfl, hown, hc, _⟩ := hat (by omega)
  have c4 : w.cell? ⟨q, 4, none⟩ = some (.slice (some ⟨g, 0, none⟩) s.L.length cap) := cellOf h.box 4
  have cA4 : ∀ o, (w.alloc o).cell? ⟨q, 4, none⟩ = some (.slice (some ⟨g, 0, none⟩) s.L.length cap) := fun o => below_adds ((Touch.refl _ w).alloc o) c4
  have HQ := hid h
  have HC := hid (fun j u (hu : (fcs s.L)[j]? = some u) => show w.cell? ⟨g, j, none⟩ = some u by
    have hj := (List.getElem?_eq_some_iff.1 hu).1
    rw [fcs_len] at hj
    have e1 : j = (j / 5) * 5 + j % 5 := by omega
    have q1 := hc (j / 5) (by omega) (j % 5) (by omega)
    rw [← fcs_get s.L (j / 5) (by omega) (j % 5) (by omega), ← e1, hu] at q1
    exact q1)
  have HL := hid (And.intro hl hi)
  obtain ⟨n, hn⟩ : ∃ n, n = s.L.length := ⟨_, rfl⟩
  have HN := hid hn
  rw [← hn] at c4 cA4 hcap hl hi
  have hi0 : decide ((0 : Int) ≤ (i : Int)) = true := by simp
  have hs1 := run_preQ g n cap i (by omega)
  have hs2 := run_sufQ g n cap (i + 1) (by omega)
  have hw1 : wrap64 ((i : Int) + 1) = (i : Int) + 1 := by simp [wrap64]; omega
  have hwi : (i : Int) + 1 = ((i + 1 : Nat) : Int) := by omega
  rw [← hwi] at hs2
  have HR1 := hid (show (w.alloc (.cells #[] 107)).ownsRow w.heap.size 107 5 (.slice (some ⟨w.heap.size, 0, none⟩) 0 0) 0 (fcs []) from World.ownsRow_lit (base := w.heap.size) (e := 107) (size := 5) w #[] 0 (Nat.le_refl _) (by decide) rfl)
  have HT1 := hid (show (s.L.take i).length = i by rw [List.length_take]; have := HN.out; omega)
  have HT2 := hid (show (s.L.drop (i + 1)).length = n - (i + 1) by rw [List.length_drop, ← HN.out])
  have HB1 := hid (show w.heap.size ≤ (w.alloc (.cells #[] 107)).heap.size by simp)
  have HK1 := hid (show ∀ j u, (fcs (s.L.take i))[j]? = some u → (w.alloc (.cells #[] 107)).cell? ((⟨g, 0, none⟩ : Addr).add j) = some u from fun j u hu => by
    rw [Addr.add_mid, Nat.zero_add]
    refine below_adds ((Touch.refl _ w).alloc _) (HC.out j u ?_)
    rw [← fcs_take s.L i (by have := HN.out; omega), List.getElem?_take] at hu
    split at hu
    · exact hu
    · cases hu)
  have HK2 := hid (show ∀ w2, Adds w w2 → ∀ j u, (fcs (s.L.drop (i + 1)))[j]? = some u → w2.cell? ((sufQ g cap (i + 1)).add j) = some u from fun w2 hA j u hu => by
    have hj := (List.getElem?_eq_some_iff.1 hu).1
    rw [fcs_len, List.length_drop] at hj
    have hne : cap ≠ i + 1 := by have := HN.out; omega
    unfold sufQ
    rw [if_neg hne, Addr.add_mid]
    refine below_adds hA (HC.out _ u ?_)
    rw [← fcs_drop s.L (i + 1) (by have := HN.out; omega), List.getElem?_drop] at hu
    exact hu)
  have HA2 := hid (show ∀ v2 w2, (w.alloc (.cells #[] 107)).grownBy w2 (Value.slice (some ⟨w.heap.size, 0, none⟩) 0 0).ownBlock → w2.ownsRow w.heap.size 107 5 v2 (0 + i) (fcs ([] ++ s.L.take i)) → Adds w w2 ∧ w2.ownsRow w.heap.size 107 5 v2 i (fcs (s.L.take i)) from fun v2 w2 hg hr => by
    refine ⟨((Touch.refl (fun _ => False) w).alloc _).then (grown_touch hg) (fun k hk c => ?_), by rw [Nat.zero_add, List.nil_append] at hr; exact hr⟩
    have e : w.heap.size = k := by simpa [Value.ownBlock] using c
    omega)
  have HA3 := hid (show ∀ v2 w2 v3 w3, Adds w w2 → w2.ownsRow w.heap.size 107 5 v2 i (fcs (s.L.take i)) → w2.grownBy w3 v2.ownBlock → w3.ownsRow w.heap.size 107 5 v3 (i + (n - (i + 1))) (fcs (s.L.take i ++ s.L.drop (i + 1))) → (∃ ga gc, v3 = .slice ga (i + (n - (i + 1))) gc) ∧ w3.heap[q]? = some (QBox r s (.slice (some ⟨g, 0, none⟩) s.L.length cap)) ∧ PQ11 w O q r { s with L := s.L.take i ++ s.L.drop (i + 1) } (.tuple #[]) (.returned (.tuple #[])) (w3.setCell ⟨q, 4, none⟩ v3) from fun v2 w2 v3 w3 hA hr hg hr3 => by
    have hA3 : Adds w w3 := hA.then (grown_touch hg) (fun k hk c => by have := (own_low hr c).1; omega)
    obtain ⟨q1, O', h1, h2, h3⟩ := HQ.out.set (hA3.mono (fun _ _ c => c.elim)) (L := s.L.take i ++ s.L.drop (i + 1)) (v2 := v3) (by
      rw [show (s.L.take i ++ s.L.drop (i + 1)).length = i + (n - (i + 1)) by rw [List.length_append, HT1.out, HT2.out]]
      exact own_down hr3) (fun k hk => .inr (own_low hr3 hk).1)
    refine ⟨?_, q1, rfl, O', ⟨_, h1⟩, h2, h3⟩
    rcases hr3.2 with ⟨e, e0⟩ | ⟨g3, cap3, _, e, _⟩
    · exact ⟨none, 0, by rw [e, e0]⟩
    · exact ⟨_, _, e⟩)
  unfold Ptr at *
  clear h hat hc hn hown hwi
  go_enter Tryz.func58, Tryz.ntmps58
  go_upto_region 2 with (first
    | (at_builtin; refine append_fr rfl _ _ rfl w.heap.size (.slice (some ⟨w.heap.size, 0, none⟩) 0 0) 0 [] rfl HR1.out ⟨g, 0, none⟩ i cap (s.L.take i) HT1.out rfl HK1.out (by omega) HB1.out ?_; intro v2 w2 hr2 hg2 ha2; have H2 := hid (HA2.out v2 w2 hg2 hr2); clear hr2 hg2 ha2))
  have d4 : w2.cell? ⟨q, 4, none⟩ = some (.slice (some ⟨g, 0, none⟩) n cap) := below_adds H2.out.1 c4
  go_wp2_with (first
    | (at_builtin; refine append_fr rfl _ _ rfl w.heap.size v2 i (s.L.take i) rfl H2.out.2 (sufQ g cap (i + 1)) (n - (i + 1)) (cap - (i + 1)) (s.L.drop (i + 1)) HT2.out rfl (HK2.out w2 H2.out.1) (by omega) H2.out.1.size ?_; intro v3 w3 hr3 hg3 ha3; obtain ⟨⟨ga, gc, e3⟩, hb3, hp3⟩ := HA3.out v2 w2 v3 w3 H2.out.1 H2.out.2 hg3 hr3; subst e3; have d5 := cellOf hb3 4; have f5 := frozen_of_row w3 q 4 _ 79 hb3; have H3 := hid hp3; clear hr3 hg3 ha3 hb3 hp3))
  go_end0
  exact H3.out
end Go.Proofs.YtjbdchgadfhffaaGreatDoor
