/- What a page says: page.read. -/
import Derived.Test.YtidkmamjhpckgaaDoorPCut
namespace Go.Proofs.YtidkmamjhpckgaaDoor
open Go.RowKit

namespace M
def noP (bs : List UInt8) : Nat := match readP bs with
  | none => 0
  | some p => p.no
def errP (bs : List UInt8) : Nat := match readP bs with
  | none => 22
  | some _ => 0
set_option maxRecDepth 100000 in
theorem none_all {bs : List UInt8} (h : readP bs = none) : noP bs = 0 ∧ kindP bs = 0 ∧ cellsP bs = [] ∧ errP bs = 22 := by
  unfold noP kindP cellsP errP
  rw [h]; exact ⟨rfl, rfl, rfl, rfl⟩
set_option maxRecDepth 100000 in
theorem some_all {bs : List UInt8} {p : Pg} (h : readP bs = some p) : noP bs = p.no ∧ kindP bs = p.kind ∧ cellsP bs = p.cells ∧ errP bs = 0 := by
  unfold noP kindP cellsP errP
  rw [h]; exact ⟨rfl, rfl, rfl, rfl⟩
end M
set_option maxRecDepth 100000 in
set_option maxHeartbeats 400000 in
theorem byte_any {v : Value} {s : M.St} {w : World} (h : RD w v s) : Calls Tryd.prog 30 #[v] w (PR w v (.int .u8 ((M.fixedR 1 s).1 : Int)) (M.fixedR 1 s).2) := by
  have H := hid (fixed_any 1 h)
  have hlt : (M.fixedR 1 s).1 < 256 := by
    have h1 := (M.fix_unfix _ (M.takeR 1 s).1 rfl).2
    have h2 : 256 ^ (M.takeR 1 s).1.length ≤ 256 ^ 1 := Nat.pow_le_pow_right (by decide) (M.takeR_len 1 s)
    exact Nat.lt_of_lt_of_le h1 (by simpa using h2)
  clear h
  go_enter Tryd.func30, Tryd.ntmps30
  go_wp2_with (first | (go_at_call 29; refine H.out.mono ?_; rintro e w' ⟨rfl, h1, h2⟩))
  go_ret
  exact ⟨rfl, h1, h2⟩
set_option maxRecDepth 100000 in
theorem fixed_put {v : Value} {l : List UInt8} {w : World} (z : Int) (k : Nat) (hz : M.clamp z = k) (hl : k ≤ l.length) (h : RD w v ⟨0, l⟩) : Calls Tryd.prog 29 #[v, .int .i64 z] w (PR w v (.int .u64 (M.unfix (l.take k) : Int)) ⟨0, l.drop k⟩) := by
  have q := fixed_any z h
  rw [fixedR_ok hz hl] at q
  exact q
set_option maxRecDepth 100000 in
theorem byte_put {v : Value} {c : UInt8} {l : List UInt8} {w : World} (h : RD w v ⟨0, c :: l⟩) : Calls Tryd.prog 30 #[v] w (PR w v (.int .u8 (c.toNat : Int)) ⟨0, l⟩) := by
  have q := byte_any h
  rw [fixedR_ok (k := 1) (by decide) (by simp)] at q
  have e : M.unfix (List.take 1 (c :: l)) = c.toNat := by simp [M.unfix]
  simp only [e, List.drop_succ_cons, List.drop_zero] at q
  exact q
/-- What read tells. -/
def PRd (w : World) (bs : List UInt8) (e : Ending) (w' : World) : Prop := ∃ va vc, ∃ hs : List Part, e = .returned (.tuple #[.agg #[.int .i64 (M.noP bs : Int), .int .u8 ((M.kindP bs).toNat : Int), .slice va hs.length vc], .int .i64 (M.errP bs : Int)]) ∧ Hid (hs.map (·.bs) = M.cellsP bs ∧ GQ w' (fun _ => True) ⟨va, vc, hs⟩ ∧ Adds w w' ∧ hs.length ≤ vc)
theorem GQ.nil (w : World) : GQ w (fun _ => True) ⟨none, 0, []⟩ := ⟨CQ.nil _ _ _, fun _ => rfl, fun _ h => (by cases h)⟩
set_option maxRecDepth 100000 in
set_option maxHeartbeats 1000000 in
theorem gread_long (a : Option Addr) (bs : List UInt8) (n cap : Nat) (w : World) (hn : bs.length = n) (h : n ≠ 256) : Calls Tryd.prog 14 #[.slice a n cap] w (PRd w bs) := by
  have HN := hid (M.none_all (show M.readP bs = none by rw [M.readP, if_pos (by omega)]))
  have h1 : ((n : Int) != 256) = true := by simp; omega
  clear h hn
  go_enter Tryd.func14, Tryd.ntmps14
  go_wp2_with fail
  refine bodyPost_ret (v := .tuple #[.agg #[.int .i64 0, .int .u8 0, .slice none 0 0], .int .i64 22]) (by simp [results, Tryd.results14, go_sem]) rfl ⟨none, 0, [], ?_, ?_, ?_, ?_, Nat.le_refl _⟩
  · rw [HN.out.1, HN.out.2.1, HN.out.2.2.2]; rfl
  · rw [HN.out.2.2.1]; rfl
  · exact GQ.nil _
  · repeat (first | exact Touch.refl _ _ | refine Touch.alloc ?_ _ | refine Touch.setCell ?_ (fun h => absurd h (by simp)) _)
set_option maxRecDepth 100000 in
/-- What stands ahead of a page's room. -/
theorem first8 {bs : List UInt8} (hl : bs.length = 256) : (bs.take 8).take 4 = bs.take 4 ∧ (bs.take 8).drop 4 = bs.getD 4 0 :: bs.getD 5 0 :: (bs.drop 6).take 2 := by
  refine ⟨by rw [List.take_take]; rfl, ?_⟩
  rw [List.drop_take, List.drop_eq_getElem_cons (by omega : 4 < bs.length), List.drop_eq_getElem_cons (by omega : 5 < bs.length)]
  rw [List.getD_eq_getElem?_getD, List.getElem?_eq_getElem (by omega : 4 < bs.length), List.getD_eq_getElem?_getD, List.getElem?_eq_getElem (by omega : 5 < bs.length)]
  rfl
set_option maxRecDepth 100000 in
theorem read_256 {bs : List UInt8} (hl : bs.length = 256) : M.readP bs = match M.cutC ((bs.drop 8).take 244) (bs.getD 5 0).toNat (M.unfix ((bs.drop 6).take 2)) with
    | none => none
    | some cs => if 2147483647 < M.unfix (bs.take 4) ∨ bs.getD 4 0 = 0 then none else some ⟨M.unfix (bs.take 4), bs.getD 4 0, cs⟩ := by
  rw [M.readP, if_neg (by omega)]
  cases M.cutC ((bs.drop 8).take 244) (bs.getD 5 0).toNat (M.unfix ((bs.drop 6).take 2)) <;> rfl
set_option maxRecDepth 100000 in
set_option maxHeartbeats 1000000 in
theorem gread_256 (b o : Nat) (bs : List UInt8) (cap : Nat) (w : World) (hl : bs.length = 256) (hc : 256 ≤ cap) (hA : At w (some ⟨b, o, none⟩) bs) : Calls Tryd.prog 14 #[.slice (some ⟨b, o, none⟩) 256 cap] w (PRd w bs) := by
  have hread := read_256 hl
  obtain ⟨f1, f2⟩ := first8 hl
  have hno4 : M.unfix (bs.take 4) < 4294967296 := by have := (M.fix_unfix 4 (bs.take 4) (by rw [List.length_take]; omega)).2; omega
  have l2 : ((bs.drop 6).take 2).length = 2 := by rw [List.length_take, List.length_drop]; omega
  have htt : M.unfix ((bs.drop 6).take 2) ≤ 65535 := by have := (M.fix_unfix 2 _ l2).2; omega
  have hbw : b < w.heap.size := by
    obtain ⟨b', o', e, hc⟩ := hA 0 bs[0] (List.getElem?_eq_getElem (by omega))
    cases e
    exact World.block_lt_of_cell? w _ hc
  have HR := hid (fun w' (hA' : Adds w w') => show Calls Tryd.prog 28 #[.slice (some ⟨b, o, none⟩) 8 cap] w' (PRead w' (bs.take 8)) by
    have q := read_any (some ⟨b, o, none⟩) (bs.take 8) cap w' (by rw [List.length_take]; omega) (fun e => by cases e) ((hA.pre _).adds hA')
    rw [List.length_take, show min 8 bs.length = 8 by omega] at q
    exact q)
  have HF4 := hid (fun w1 p (h : RD w1 (Ptr p) ⟨0, bs.take 8⟩) => show Calls Tryd.prog 29 #[Ptr p, .int .i64 4] w1 (PR w1 (Ptr p) (.int .u64 (M.unfix (bs.take 4) : Int)) ⟨0, bs.getD 4 0 :: bs.getD 5 0 :: (bs.drop 6).take 2⟩) by
    have q := fixed_put 4 4 (by decide) (by rw [List.length_take]; omega) h
    rw [f1, f2] at q; exact q)
  have HF2 := hid (fun w1 p (h : RD w1 (Ptr p) ⟨0, (bs.drop 6).take 2⟩) => show Calls Tryd.prog 29 #[Ptr p, .int .i64 2] w1 (PR w1 (Ptr p) (.int .u64 (M.unfix ((bs.drop 6).take 2) : Int)) ⟨0, []⟩) by
    have q := fixed_put 2 2 (by decide) (by omega) h
    rw [List.take_of_length_le (by omega : ((bs.drop 6).take 2).length ≤ 2), List.drop_eq_nil_of_le (by omega : ((bs.drop 6).take 2).length ≤ 2)] at q
    exact q)
  obtain ⟨oc, hoc⟩ : ∃ oc, oc = M.cutC ((bs.drop 8).take 244) (bs.getD 5 0).toNat (M.unfix ((bs.drop 6).take 2)) := ⟨_, rfl⟩
  obtain ⟨ok, hok⟩ : ∃ ok, ok = oc.isSome := ⟨_, rfl⟩
  have hct := (bs.getD 5 0).toNat_lt
  have HC := hid (fun w1 (hA' : Adds w w1) => show Calls Tryd.prog 31 #[.slice (some ⟨b, o + 8, none⟩) 244 (cap - 8), .int .i64 ((bs.getD 5 0).toNat : Int), .int .i64 (M.unfix ((bs.drop 6).take 2) : Int)] w1 (fun e w' => ∃ va vn vc, e = .returned (.tuple #[.slice va vn vc, .bool ok]) ∧ Hid (Adds w1 w' ∧ ∀ cs, oc = some cs → ∃ hs : List Part, hs.map (·.bs) = cs ∧ vn = hs.length ∧ GQ w' (fun k => k = b ∨ w1.heap.size ≤ k) ⟨va, vc, hs⟩ ∧ hs.length ≤ vc)) by
    have q := gcut_any b (o + 8) ((bs.drop 8).take 244) (cap - 8) (bs.getD 5 0).toNat (M.unfix ((bs.drop 6).take 2)) w1 (by rw [List.length_take, List.length_drop]; omega) (by omega) (((hA.suf 8).pre 244).adds hA') (by omega) htt
    unfold PCut at q
    rw [← hoc, ← hok] at q
    exact q)
  rw [← hoc] at hread
  generalize M.unfix (bs.take 4) = no at *
  generalize M.unfix ((bs.drop 6).take 2) = tt at *
  generalize bs.getD 4 0 = kd at *
  generalize bs.getD 5 0 = ct at *
  generalize (bs.drop 6).take 2 = l2' at *
  have hs1 := run_pre (some ⟨b, o, none⟩) 256 cap 8 (by omega)
  have hs2 := run_mid_at b o 256 cap 8 252 (by omega) (by omega) (by omega)
  have HQ := hid hread
  have HK := hid hok
  clear hA hread f1 f2 hoc hok l2 hl
  go_enter Tryd.func14, Tryd.ntmps14
  go_upto_region 1 with fail
  obtain ⟨wB, hwB⟩ : ∃ wB, wB = w.alloc (Obj.cells #[Value.int IntKind.i64 0, Value.int IntKind.u8 0, Value.slice none 0 0] 42) := ⟨_, rfl⟩
  have HAB := hid (show Adds w wB by rw [hwB]; exact (Touch.refl _ w).alloc _)
  have HXB := hid (show wB.heap[w.heap.size]? = some (Obj.cells #[Value.int IntKind.i64 0, Value.int IntKind.u8 0, Value.slice none 0 0] 42) by rw [hwB]; exact heap_alloc_new w _)
  rw [← hwB]
  clear hwB
  go_upto_region 6 with (first
    | (go_at_call 28; refine (HR.out wB HAB.out).mono ?_; rintro e w1 ⟨p, rfl, hp, hr, hA1⟩; have P1 := hid hp; have R1 := hid (And.intro hr hA1); clear hp hr hA1)
    | (go_at_call 29; refine (HF2.out w4 p R4.out.1).mono ?_; rintro e w5 ⟨rfl, hr, hT⟩; have R5 := hid (Adds.own R4.out.2 hT P1.out); clear hr hT)
    | (go_at_call 29; refine (HF4.out w1 p R1.out.1).mono ?_; rintro e w2 ⟨rfl, hr, hT⟩; have R2 := hid (And.intro hr (Adds.own R1.out.2 hT P1.out)); clear hr hT)
    | (go_at_call 30; refine (byte_put R3.out.1).mono ?_; rintro e w4 ⟨rfl, hr, hT⟩; have R4 := hid (And.intro hr (Adds.own R3.out.2 hT P1.out)); clear hr hT)
    | (go_at_call 30; refine (byte_put R2.out.1).mono ?_; rintro e w3 ⟨rfl, hr, hT⟩; have R3 := hid (And.intro hr (Adds.own R2.out.2 hT P1.out)); clear hr hT)
    | (go_at_call 31; refine (HC.out w5 (HAB.out.trans R5.out)).mono ?_; rintro e w6 ⟨va, vn, vc, rfl, H6⟩))
  have hb6 := R5.out.trans H6.out.1
  have x6 : w6.heap[w.heap.size]? = some (Obj.cells #[Value.int IntKind.i64 0, Value.int IntKind.u8 0, Value.slice none 0 0] 42) := Touch.at' hb6 HXB.out id
  have c0 := cellOf x6 0
  have c1 := cellOf x6 1
  have c2 := cellOf x6 2
  have f0 := frozen_of_row w6 w.heap.size 0 _ 42 x6
  have f1 := frozen_of_row w6 w.heap.size 1 _ 42 x6
  have f2 := frozen_of_row w6 w.heap.size 2 _ 42 x6
  simp at c0 c1 c2
  have HT := hid (HAB.out.trans hb6)
  have hz5 : w.heap.size ≤ w5.heap.size := Nat.le_trans HAB.out.size R5.out.size
  have hz1 : w.heap.size < w5.heap.size := Nat.lt_of_lt_of_le (lt_of_heap HXB.out) R5.out.size
  clear hb6 x6 HC HF2 HF4 HR R1 R2 R3 R4 P1 hs1 hs2
  by_cases h1 : 2147483647 < no
  · have HN := hid (M.none_all (show M.readP bs = none by rw [HQ.out]; cases oc with | none => rfl | some cs => exact if_pos (.inl h1)))
    have h1' : (2147483647 : Int) < (no : Int) := by omega
    go_wp2_with fail
    refine bodyPost_ret (v := .tuple #[.agg #[.int .i64 0, .int .u8 0, .slice none 0 0], .int .i64 22]) (by simp [results, Tryd.results14, go_sem, c0, c1, c2]) rfl ⟨none, 0, [], ?_, ?_, ?_, ?_, Nat.le_refl _⟩
    · rw [HN.out.1, HN.out.2.1, HN.out.2.2.2]; rfl
    · rw [HN.out.2.2.1]; rfl
    · exact GQ.nil _
    · repeat (first | exact HT.out | refine Touch.setCell ?_ (fun h => absurd h (by simp)) _)
  · have h1' : ¬ (2147483647 : Int) < (no : Int) := by omega
    by_cases h2 : kd = 0
    · have HN := hid (M.none_all (show M.readP bs = none by rw [HQ.out]; cases oc with | none => rfl | some cs => exact if_pos (.inr h2)))
      have h2' : (kd.toNat : Int) = 0 := by rw [h2]; rfl
      clear h2
      go_wp2_with fail
      refine bodyPost_ret (v := .tuple #[.agg #[.int .i64 0, .int .u8 0, .slice none 0 0], .int .i64 22]) (by simp [results, Tryd.results14, go_sem, c0, c1, c2]) rfl ⟨none, 0, [], ?_, ?_, ?_, ?_, Nat.le_refl _⟩
      · rw [HN.out.1, HN.out.2.1, HN.out.2.2.2]; rfl
      · rw [HN.out.2.2.1]; rfl
      · exact GQ.nil _
      · repeat (first | exact HT.out | refine Touch.setCell ?_ (fun h => absurd h (by simp)) _)
    · have h2' : ¬ (kd.toNat : Int) = 0 := fun e => h2 (UInt8.toNat_inj.1 (by simpa using (show kd.toNat = 0 by omega)))
      cases oc with
      | none =>
        obtain rfl : ok = false := HK.out
        have HN := hid (M.none_all (show M.readP bs = none from HQ.out))
        clear h2
        go_wp2_with fail
        refine bodyPost_ret (v := .tuple #[.agg #[.int .i64 0, .int .u8 0, .slice none 0 0], .int .i64 22]) (by simp [results, Tryd.results14, go_sem, c0, c1, c2]) rfl ⟨none, 0, [], ?_, ?_, ?_, ?_, Nat.le_refl _⟩
        · rw [HN.out.1, HN.out.2.1, HN.out.2.2.2]; rfl
        · rw [HN.out.2.2.1]; rfl
        · exact GQ.nil _
        · repeat (first | exact HT.out | refine Touch.setCell ?_ (fun h => absurd h (by simp)) _)
      | some cs =>
        obtain rfl : ok = true := HK.out
        have HN := hid (M.some_all (show M.readP bs = some ⟨no, kd, cs⟩ by rw [HQ.out]; exact if_neg (fun c => by rcases c with c | c; exact h1 c; exact h2 c)))
        obtain ⟨hs, hbs, rfl, hg, hv⟩ := H6.out.2 cs rfl
        have HG := hid (And.intro hbs (And.intro hg hv))
        clear h2 hbs hg hv
        go_wp2_with fail
        refine bodyPost_ret (v := .tuple #[.agg #[.int .i64 (no : Int), .int .u8 (kd.toNat : Int), .slice va hs.length vc], .int .i64 0]) (by simp [results, Tryd.results14, go_sem, c0, c1, c2]) rfl ⟨va, vc, hs, ?_, ?_, ?_, ?_, HG.out.2.2⟩
        · rw [HN.out.1, HN.out.2.1, HN.out.2.2.2]; rfl
        · rw [HN.out.2.2.1]; exact HG.out.1
        · have hT : Touch (fun k => k = w.heap.size) w6 (((w6.setCell ⟨w.heap.size, 0, none⟩ (.int .i64 (no : Int))).setCell ⟨w.heap.size, 1, none⟩ (.int .u8 (kd.toNat : Int))).setCell ⟨w.heap.size, 2, none⟩ (.slice va hs.length vc)) :=
            Touch.setCell (T := fun k => k = w.heap.size) (Touch.setCell (T := fun k => k = w.heap.size) (Touch.setCell (T := fun k => k = w.heap.size) (Touch.refl _ w6) (p := ⟨w.heap.size, 0, none⟩) (fun _ => rfl) _) (p := ⟨w.heap.size, 1, none⟩) (fun _ => rfl) _) (p := ⟨w.heap.size, 2, none⟩) (fun _ => rfl) _
          exact (HG.out.2.1.touch hT (fun k c e => by subst e; rcases c with c | c <;> omega)).mono (fun _ _ _ => trivial)
        · repeat (first | exact HT.out | refine Touch.setCell ?_ (fun h => absurd h (by simp)) _)
set_option maxRecDepth 100000 in
theorem gread_any (a : Option Addr) (bs : List UInt8) (n cap : Nat) (w : World) (hn : bs.length = n) (hc : n ≤ cap) (hA : At w a bs) : Calls Tryd.prog 14 #[.slice a n cap] w (PRd w bs) := by
  by_cases h : n = 256
  · subst h
    obtain ⟨b, o, rfl⟩ := hA.ad (by omega)
    exact gread_256 b o bs cap w hn hc hA
  · exact gread_long a bs n cap w hn h
set_option maxRecDepth 100000 in
theorem gread_none {bs : List UInt8} (hR : M.readP bs = none) (a : Option Addr) (n cap : Nat) (w : World) (hn : bs.length = n) (hc : n ≤ cap) (hA : At w a bs) : Calls Tryd.prog 14 #[.slice a n cap] w (fun e w' => ∃ va vc, e = .returned (.tuple #[.agg #[.int .i64 0, .int .u8 0, .slice va 0 vc], .int .i64 22]) ∧ Adds w w') := by
  refine (gread_any a bs n cap w hn hc hA).mono ?_
  rintro e w' ⟨va, vc, hs, rfl, H⟩
  obtain ⟨h1, h2, h3, h4⟩ := M.none_all hR
  have hg := H.out.1
  rw [h3] at hg
  obtain rfl : hs = [] := by cases hs with | nil => rfl | cons x l => cases hg
  exact ⟨va, vc, by rw [h1, h2, h4]; rfl, H.out.2.2.1⟩
set_option maxRecDepth 100000 in
theorem gread_some {bs : List UInt8} {p : M.Pg} (hR : M.readP bs = some p) (a : Option Addr) (n cap : Nat) (w : World) (hn : bs.length = n) (hc : n ≤ cap) (hA : At w a bs) : Calls Tryd.prog 14 #[.slice a n cap] w (fun e w' => ∃ va vc, ∃ hs : List Part, e = .returned (.tuple #[.agg #[.int .i64 (p.no : Int), .int .u8 (p.kind.toNat : Int), .slice va p.cells.length vc], .int .i64 0]) ∧ Hid (hs.map (·.bs) = p.cells ∧ GQ w' (fun _ => True) ⟨va, vc, hs⟩ ∧ Adds w w' ∧ hs.length = p.cells.length ∧ p.cells.length ≤ vc)) := by
  refine (gread_any a bs n cap w hn hc hA).mono ?_
  rintro e w' ⟨va, vc, hs, rfl, H⟩
  obtain ⟨h1, h2, h3, h4⟩ := M.some_all hR
  have hg := H.out.1
  rw [h3] at hg
  have hl : hs.length = p.cells.length := by rw [← hg, List.length_map]
  exact ⟨va, vc, hs, by rw [h1, h2, h4, hl]; rfl, hg, H.out.2.1, H.out.2.2.1, hl, by rw [← hl]; exact H.out.2.2.2⟩
set_option maxRecDepth 100000 in
/-- Cells of a page have few bytes. -/
theorem cell_len {p : M.Pg} (hp : p.Ok) {c : List UInt8} (hc : c ∈ p.cells) : c.length ≤ 244 := by
  have h1 := hp.count.2
  have h2 : c.length ≤ p.cells.flatten.length := by
    obtain ⟨s, t, e⟩ := List.append_of_mem hc
    rw [e, List.flatten_append, List.flatten_cons, List.length_append, List.length_append]; omega
  omega
end Go.Proofs.YtidkmamjhpckgaaDoor
