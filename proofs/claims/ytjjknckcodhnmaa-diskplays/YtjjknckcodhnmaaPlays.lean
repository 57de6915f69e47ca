/- The walk of DiskPlays. -/
import Derived.Test.YtjjknckcodhnmaaBoth
import Derived.Test.YtjjknckcodhnmaaSame
import Derived.Deep.CutBlock
namespace Go.Proofs.Ytjjknckcodhnmaa
open Go.RowKit
namespace Plays

/-- A call's cells. -/
def actCells (k0 i0 n0 : Int) (c : UInt8) (sh : Bool) (ka : Option Addr) (kn kc : Nat) (torn at_ : Int) : List Value :=
  [.int .i64 k0, .int .i64 i0, .int .i64 n0, .int .u8 (c.toNat : Int), .bool sh, .slice ka kn kc, .int .i64 torn, .int .i64 at_]
theorem one_act (k0 i0 n0 : Int) (c : UInt8) (sh : Bool) (ka : Option Addr) (kn kc : Nat) (torn at_ : Int) : ∀ u ∈ actCells k0 i0 n0 c sh ka kn kc torn at_, u.oneCell' = true := fun u hu => by
  simp only [actCells, List.mem_cons, List.not_mem_nil, or_false] at hu
  rcases hu with rfl | rfl | rfl | rfl | rfl | rfl | rfl | rfl <;> rfl
/-- What is told of the calls: where they lie. -/
def ActsAt (w : World) (a : Option Addr) (len : Nat) : Prop := len ≤ 9223372036854775807 ∧ ∀ j, j < len → ∃ b o k0 i0 n0 c sh ka kc ks torn at_, a = some ⟨b, o, none⟩ ∧
  w.rangeAt b (o + j * 8) (actCells k0 i0 n0 c sh ka (List.length ks) kc torn at_) ∧ KeptAt w ka ks ∧ ks.length ≤ 9223372036854775807 ∧ n0 ≤ 9223372036854775807

theorem zero35 (w : World) : (zeroValue 35).run Try.prog w = .ok (.agg #[.int .i64 0, .int .i64 0, .int .i64 0, .int .u8 0, .bool false, .slice none 0 0, .int .i64 0, .int .i64 0]) w := by kernel_rfl
theorem info35 : (Try.prog.info? 35).map (·.size) = some 8 := by kernel_rfl

theorem same_play {w0 w : World} {p r k : Nat} {D : St} {L : List (Nat × Array Value × TypeId)} (hP : Play w0 w p r D D L) (hk : k ≤ 26) (ho : Okay D k) : Calls Try.prog 20 #[.pointer (some ⟨p, 0, none⟩), .pointer (some ⟨r, 0, none⟩)] w (PLaw w) := by
  obtain ⟨hb, wv, hd⟩ := hP.disk
  obtain ⟨hv, rv, hr⟩ := hP.ref
  exact same_any _ _ p hb r wv hv rv D w hd hr (by have := ho.waits; omega)

/-- A store into the bytes of a write. -/
theorem _root_.Go.Proofs.Ytjjknckcodhnmaa.Play.put {w0 w : World} {p r g : Nat} {D E : St} {bs : List UInt8} (h : Play w0 w p r D E [(g, (S bs).toArray, 5)]) (hg : w0.heap.size ≤ g) (j : Nat) (z : Int) :
    ∃ bs' : List UInt8, bs'.length = bs.length ∧ Play w0 (w.setCell ⟨g, j, none⟩ (.int .u8 (IntKind.u8.wrap z))) p r D E [(g, (S bs').toArray, 5)] := by
  have hB : Bytes w g bs := (h.others _ (List.mem_singleton.2 rfl)).1
  obtain ⟨bs', e1, e2⟩ := hB.put j z
  obtain ⟨hb, wv, hd⟩ := h.disk
  obtain ⟨hv, rv, hr⟩ := h.ref
  have a1 := hd.apart hB (by decide) (by decide)
  have a2 := hr.apart hB (fun c => ⟨by simp, by simp, by simp⟩)
  have hT : Touch (fun k => k = g) w (w.setCell ⟨g, j, none⟩ (.int .u8 (IntKind.u8.wrap z))) := Touch.setCell (T := fun k => k = g) (Touch.refl _ w) (fun _ => rfl) _
  refine ⟨bs', e1, ⟨hb, wv, hd.kept hT (fun e => a1.1 e.symm) (fun e => a1.2.1 e.symm) (fun k hk e => a1.2.2 (by rw [← e]; exact hk))⟩, ⟨hv, rv, hr.kept hT (fun e => a2.1 e.symm) (fun k hk e => a2.2.1 (by rw [← e]; exact hk)) (fun k hk e => a2.2.2 (by rw [← e]; exact hk))⟩, fun x hx => ?_, h.adds.then hT (fun i hi e => absurd hi (by omega))⟩
  obtain rfl := List.mem_singleton.1 hx
  exact ⟨e2, (show (5 : TypeId) ≠ 53 ∧ (5 : TypeId) ≠ 76 ∧ (5 : TypeId) ≠ 70 ∧ (5 : TypeId) ≠ 9 ∧ (5 : TypeId) ≠ 78 by decide)⟩

set_option maxRecDepth 100000 in
set_option maxHeartbeats 4000000 in
theorem walk (n : Int) (wn : (Lit.int .i64 n).wf = true) (a : Option Addr) (len cap : Nat) (w : World) (hc : ActsAt w a len) : Calls Try.prog 3 #[.int .i64 n, .slice a len cap] w (PLaw w) := by
  have hb0 := bounds_i64 wn
  obtain ⟨hlen, hacts⟩ := hc
  have HC := hid hacts
  clear hacts wn
  by_cases hn : n < 1 ∨ 4096 < n
  · have M8 := hid (new_no n w hn)
    have M9 := hid (rnew_no n w hn)
    clear hn
    go_enter Try.func3, Try.ntmps3
    go_wp2_with (first
      | (go_at_call 8; refine M8.out.mono ?_; rintro e _ ⟨rfl, hw⟩; rw [hw])
      | (go_at_call 9; refine M9.out.mono ?_; rintro e _ ⟨rfl, hw⟩; rw [hw])
      | (go_at_call 10; refine (works_any _).mono ?_; rintro e w2 ⟨rfl, hA2⟩))
    go_ret
    exact ⟨rfl, hA2⟩
  · have M8 := hid (new_yes n w w.heap.size (Nat.le_refl _) (by omega) (by omega))
    have M9 := hid (show ∀ w1, Adds w w1 → Calls Try.prog 9 #[.int .i64 n] w1 (PRNew w1 w.heap.size n) from fun w1 h => rnew_yes n w1 w.heap.size h.size (by omega) (by omega))
    by_cases h8 : 8 < n
    · clear hn
      go_enter Try.func3, Try.ntmps3
      go_wp2_with (first
        | (go_at_call 8; refine M8.out.mono ?_; rintro e w1 ⟨p, hb, rfl, _, _, _, hA1⟩)
        | (go_at_call 9; refine (M9.out _ hA1).mono ?_; rintro e w2 ⟨r, hv, rfl, _, _, hA2⟩)
        | (go_at_call 10; refine (works_any _).mono ?_; rintro e w3 ⟨rfl, hA3⟩))
      go_ret
      exact ⟨rfl, (hA1.trans hA2).trans hA3⟩
    · have HN := hid (show 0 < n by omega)
      clear hn
      go_enter Try.func3, Try.ntmps3
      go_upto_region 3 with (first
        | (go_at_call 8; refine M8.out.mono ?_; rintro e w1 ⟨p, hb, rfl, _, _, hd1, hA1⟩)
        | (go_at_call 9; refine (M9.out _ hA1).mono ?_; rintro e w2 ⟨r, hv, rfl, _, hr2, hA2⟩))
      have HP2 := hid (show Play w w2 p r (St.new n) (St.new n) [] ∧ Okay (St.new n) 0 from ⟨⟨⟨_, _, hd1.adds hA2⟩, ⟨_, _, hr2⟩, fun x hx => (by cases hx), hA1.trans hA2⟩, ⟨Nat.le_refl _, Int.le_refl _, Int.le_refl _, Int.le_refl _, (by show (-1 : Int) ≤ _; decide), HN.out⟩⟩)
      clear hd1 hr2 hA1 hA2 M8 M9 HN
      go_wp2
      go_loopw [5, 7, 9] (fun t5 t7 t9 wr => ∃ (k p r : Nat) (D : St), k ≤ 25 ∧ t9 = .int .i64 k ∧ t5 = .pointer (some ⟨p, 0, none⟩) ∧ t7 = .pointer (some ⟨r, 0, none⟩) ∧ Hid (Play w wr p r D D [] ∧ Okay D k)) (fun _ _ t9 _ => 25 - (intOf t9).toNat)
      case atStart => exact ⟨0, _, _, _, by omega, rfl, rfl, rfl, HP2⟩
      case round =>
        clear HP2
        obtain ⟨k, p, r, D, hk, rfl, rfl, rfl, HH⟩ := hrel
        by_cases hlt : k < len ∧ k < 25
        · obtain ⟨hlt1, hlt2⟩ := hlt
          obtain ⟨b, o, k0, i0, n0, c, sh, ka, kc, ks, torn, at_, rfl, hra, hka, hkn, hn0⟩ := HC.out k hlt1
          have HKA := hid hka
          have hrr : Hid (wr.rangeAt b (o + k * 8) (actCells k0 i0 n0 c sh ka ks.length kc torn at_)) := fun j v hv => below_adds HH.out.1.adds (hra j v hv)
          have hi35 : Hid ((Try.prog.info? 35).map (·.size) = some (actCells k0 i0 n0 c sh ka ks.length kc torn at_).length) := info35
          have hset : (storeCells ⟨wr.heap.size, 0, none⟩ (actCells k0 i0 n0 c sh ka ks.length kc torn at_) 0).run Try.prog (wr.alloc (.cells #[Value.int .i64 0, .int .i64 0, .int .i64 0, .int .u8 0, .bool false, .slice none 0 0, .int .i64 0, .int .i64 0] 35)) = .ok () (wr.alloc (.cells (actCells k0 i0 n0 c sh ka ks.length kc torn at_).toArray 35)) := run_storeCells_new wr 35 _ (actCells k0 i0 n0 c sh ka ks.length kc torn at_).toArray info35 rfl (all_oneCell_toArray (one_act k0 i0 n0 c sh ka ks.length kc torn at_))
          have hzv := zero35
          clear hra hka
          go_upto_region 8 with fail
          go_cut [10] (fun t10 w' => t10 = .pointer (some ⟨wr.heap.size, 0, none⟩) ∧ w' = wr.alloc (.cells (actCells k0 i0 n0 c sh ka ks.length kc torn at_).toArray 35))
          case first =>
            go_wp2_with (refine wpList_load_mid rfl 35 _ rfl b (o + k * 8) rfl (actCells k0 i0 n0 c sh ka ks.length kc torn at_) _ hrr.out Try.underlying35 rfl hi35.out ?_)
            go_meet
            case rel => exact ⟨rfl, rfl⟩
          case rest =>
            rename World => w5
            obtain ⟨rfl, hw5⟩ := hcut
            have hA5 : Adds wr w5 := by rw [hw5]; exact (Touch.refl _ wr).alloc _
            have hg5 : w5.heap[wr.heap.size]? = some (.cells (actCells k0 i0 n0 c sh ka ks.length kc torn at_).toArray 35 (0, 0)) := by rw [hw5]; exact heap_alloc_new wr _
            have HP5 := hid (show Play w w5 p r D D [(wr.heap.size, (actCells k0 i0 n0 c sh ka ks.length kc torn at_).toArray, 35)] ∧ Okay D k from ⟨(HH.out.1.adds' hA5).more _ _ _ hg5 (by decide), HH.out.2⟩)
            have x0 : w5.cell? ⟨wr.heap.size, 0, none⟩ = some (.int .i64 k0) := cellOf hg5 0
            clear hset hw5 hrr hzv hA5 hg5 HH
            generalize wr.heap.size = ab at HP5 x0
            go_upto_block 2 with fail
            go_cut [5, 7, 11, 12] (fun t5 t7 t11 t12 w' => ∃ (p' r' : Nat) (D' : St) (E : Int), t5 = .pointer (some ⟨p', 0, none⟩) ∧ t7 = .pointer (some ⟨r', 0, none⟩) ∧ t11 = .int .i64 E ∧ t12 = .int .i64 E ∧ Hid (Play w w' p' r' D' D' [] ∧ Okay D' (k + 1)))
            case first =>
              by_cases e0 : k0 = 0
              · as_aux_lemma =>
                subst e0
                have hr5 : Hid (w5.rangeAt ab 0 (actCells 0 i0 n0 c sh ka ks.length kc torn at_)) := fun j v hv => by
                  rw [Nat.zero_add, cellOf (HP5.out.1.others _ (List.mem_singleton.2 rfl)).1, List.getElem?_toArray]; exact hv
                obtain ⟨nb, hnb, m11⟩ : ∃ nb, nb ≤ 256 ∧ Calls Try.prog 11 #[.agg (actCells 0 i0 n0 c sh ka ks.length kc torn at_).toArray] w5 (PBody w5 nb) := ⟨_, by split <;> omega, body_any 0 i0 n0 c sh _ _ _ w5⟩
                have M11 := hid m11
                clear m11
                go_upto_region 13 with (first
                  | (refine wpList_load_mid rfl 35 _ rfl ab 0 rfl (actCells 0 i0 n0 c sh ka ks.length kc torn at_) _ hr5.out Try.underlying35 rfl hi35.out ?_)
                  | (go_at_call 11; refine M11.out.mono ?_; rintro e w6 ⟨g, bs, rfl, hg6, hl6, hB6, hA6⟩))
                have HP6 := hid (show Play w w6 p r D D [(g, (S bs).toArray, 5), (ab, (actCells 0 i0 n0 c sh ka ks.length kc torn at_).toArray, 35)] ∧ Okay D k ∧ w.heap.size ≤ g from ⟨(HP5.out.1.adds' hA6).more g _ 5 hB6 (by decide), HP5.out.2, Nat.le_trans HP5.out.1.adds.size hg6⟩)
                have H6D := hid (show Play w w6.drew p r D D [(g, (S bs).toArray, 5), (ab, (actCells 0 i0 n0 c sh ka ks.length kc torn at_).toArray, 35)] from HP6.out.1.adds' (Touch.refl _ w6).drew)
                have M12 := hid (show Calls Try.prog 12 #[.pointer (some ⟨p, 0, none⟩), .int .i64 i0, .slice (some ⟨g, 0, none⟩) nb nb] w6.drew (PGo w p r (putD D i0 bs) D [(g, (S bs).toArray, 5), (ab, (actCells 0 i0 n0 c sh ka ks.length kc torn at_).toArray, 35)] (putE D i0 bs)) from write_play H6D.out hk HP6.out.2.1 g nb bs hl6 (List.mem_cons_self ..) i0)
                have M13 := hid (show ∀ w7, Play w w7 p r (putD D i0 bs) D [(g, (S bs).toArray, 5), (ab, (actCells 0 i0 n0 c sh ka ks.length kc torn at_).toArray, 35)] → Calls Try.prog 13 #[.pointer (some ⟨r, 0, none⟩), .int .i64 i0, Str bs] w7 (PGo w p r (putD D i0 bs) (putD D i0 bs) [(g, (S bs).toArray, 5), (ab, (actCells 0 i0 n0 c sh ka ks.length kc torn at_).toArray, 35)] (putE D i0 bs)) from fun w7 h => rput_play h hk HP6.out.2.1 bs i0)
                have HS := hid (show ∀ D1 D2 w7, Play w w7 p r D1 D2 [(g, (S bs).toArray, 5), (ab, (actCells 0 i0 n0 c sh ka ks.length kc torn at_).toArray, 35)] → (w7.cell? ⟨ab, 1, none⟩ = some (.int .i64 i0) ∧ (convert 36 9 (.slice (some ⟨g, 0, none⟩) nb nb)).run Try.prog w7 = .ok (Str bs) w7) from fun D1 D2 w7 h => ⟨cellOf (h.others _ (List.mem_cons_of_mem _ (List.mem_singleton.2 rfl))).1 1, conv_bytes w7 g nb nb bs hl6 (fun j b hb => by
                  have hB : Bytes w7 g bs := (h.others _ (List.mem_cons_self ..)).1
                  obtain ⟨hj, rfl⟩ := List.getElem?_eq_some_iff.1 hb
                  exact hB.cell j hj)⟩)
                have HL6 := hid hl6
                clear hr5 M11 HP5 x0 hB6 hA6 hg6 hi35 hl6
                go_cut [11, 12] (fun t11 t12 w' => t11 = .int .i64 (putE D i0 bs) ∧ t12 = .int .i64 (putE D i0 bs) ∧ Hid (Play w w' p r (putD D i0 bs) (putD D i0 bs) [(g, (S bs).toArray, 5), (ab, (actCells 0 i0 n0 c sh ka ks.length kc torn at_).toArray, 35)]))
                case first =>
                  go_region_held3 (fun w' => w'.cell? ⟨ab, 1, none⟩ = some (.int .i64 i0) ∧ (convert 36 9 (.slice (some ⟨g, 0, none⟩) nb nb)).run Try.prog w' = .ok (Str bs) w') (first | exact HS.out _ _ _ H6D.out | exact HS.out _ _ _ hP7 | exact HS.out _ _ _ hP8) (first
                    | (go_at_call 12; refine M12.out.mono ?_; rintro e w7 ⟨rfl, hP7⟩)
                    | (go_at_call 13; refine (M13.out _ hP7).mono ?_; rintro e w8 ⟨rfl, hP8⟩))
                  all_goals go_wp2
                  all_goals go_meet
                  all_goals exact ⟨rfl, rfl, hP8⟩
                case rest =>
                  rename World => w9
                  obtain ⟨rfl, rfl, HP9⟩ := hcut
                  clear M12 M13 HS H6D
                  have HOK := hid (show Okay (putD D i0 bs) (k + 1) from HP6.out.2.1.put i0 bs)
                  have HG := hid (show w.heap.size ≤ g from HP6.out.2.2)
                  have HP10 := hid (show ∃ bs' : List UInt8, bs'.length = nb ∧ Play w w9 p r (putD D i0 bs) (putD D i0 bs) [(g, (S bs').toArray, 5)] from ⟨bs, HL6.out, ⟨HP9.out.disk, HP9.out.ref, fun x hx => HP9.out.others x (by obtain rfl := List.mem_singleton.1 hx; exact List.mem_cons_self ..), HP9.out.adds⟩⟩)
                  clear HP9 HP6 HL6
                  generalize putD D i0 bs = D' at HOK HP10
                  generalize putE D i0 bs = E'
                  go_wp2
                  go_loopw [86] (fun t wi => ∃ j : Nat, j ≤ nb ∧ t = .int .i64 j ∧ Hid (∃ bs' : List UInt8, bs'.length = nb ∧ Play w wi p r D' D' [(g, (S bs').toArray, 5)])) (fun t _ => nb - (intOf t).toNat)
                  case atStart => exact ⟨0, by omega, rfl, HP10⟩
                  case round =>
                    obtain ⟨j, hj, rfl, HJ⟩ := hrel
                    rename World => wi
                    clear HP10
                    by_cases hjl : j < nb
                    · obtain ⟨bs', hl', hP⟩ := HJ.out
                      have hB : Bytes wi g bs' := (hP.others _ (List.mem_singleton.2 rfl)).1
                      have ck := hB.cell j (by omega)
                      have fk : wi.frozen? ⟨g, j, none⟩ = false := frozen_of_row wi _ _ _ 5 hB
                      have HPP := hid (show ∀ z : Int, _ from fun z => hP.put HG.out j z)
                      have HL' := hid hl'
                      generalize bs'[j]'(by omega) = bj at ck
                      clear hB hP HJ hl'
                      go_wp2
                      go_roundw
                      case rel =>
                        obtain ⟨bs2, f1, f2⟩ := HPP.out _
                        exact ⟨j + 1, by omega, by go_num, bs2, by rw [f1]; exact HL'.out, f2⟩
                      case measure => simp [intOf]; omega
                    · obtain rfl : j = nb := by omega
                      obtain ⟨bs', _, hP⟩ := HJ.out
                      go_wp2
                      go_meet
                      case rel => exact ⟨p, r, D', E', rfl, rfl, rfl, rfl, hP.none, HOK.out⟩
              by_cases e1 : k0 = 1
              · as_aux_lemma =>
                subst e1
                have M14 := hid (sync_play HP5.out.1 hk HP5.out.2)
                have M15 := hid (show ∀ w7, Play w w7 p r (syncD D) D [(ab, (actCells 1 i0 n0 c sh ka ks.length kc torn at_).toArray, 35)] → Calls Try.prog 15 #[.pointer (some ⟨r, 0, none⟩)] w7 (PGo w p r (syncD D) (syncD D) [(ab, (actCells 1 i0 n0 c sh ka ks.length kc torn at_).toArray, 35)] (syncE D)) from fun w7 h => rsync_play h hk HP5.out.2)
                go_wp2_with (first
                  | (go_at_call 14; refine M14.out.mono ?_; rintro e w7 ⟨rfl, hP7⟩)
                  | (go_at_call 15; refine (M15.out _ hP7).mono ?_; rintro e w8 ⟨rfl, hP8⟩))
                go_meet
                case rel => exact ⟨p, r, _, _, rfl, rfl, rfl, rfl, hP8.none, HP5.out.2.sync⟩
              by_cases e2 : k0 = 2
              · as_aux_lemma =>
                subst e2
                have H5D := hid (show Play w w5.drew p r D D [(ab, (actCells 2 i0 n0 c sh ka ks.length kc torn at_).toArray, 35)] from HP5.out.1.adds' (Touch.refl _ w5).drew)
                have M16 := hid (cut_play H5D.out HP5.out.2 n0)
                have M17 := hid (show ∀ w7, Play w w7 p r (cutD D n0) D [(ab, (actCells 2 i0 n0 c sh ka ks.length kc torn at_).toArray, 35)] → Calls Try.prog 17 #[.pointer (some ⟨r, 0, none⟩), .int .i64 n0] w7 (PGo w p r (cutD D n0) (cutD D n0) [(ab, (actCells 2 i0 n0 c sh ka ks.length kc torn at_).toArray, 35)] (cutE n0)) from fun w7 h => rcut_play h n0)
                have HS := hid (show ∀ D1 D2 w7, Play w w7 p r D1 D2 [(ab, (actCells 2 i0 n0 c sh ka ks.length kc torn at_).toArray, 35)] → w7.cell? ⟨ab, 2, none⟩ = some (.int .i64 n0) from fun D1 D2 w7 h => cellOf (h.others _ (List.mem_singleton.2 rfl)).1 2)
                clear x0
                go_upto_region 22 with fail
                go_region_held3 (fun w' => w'.cell? ⟨ab, 2, none⟩ = some (.int .i64 n0)) (first | exact HS.out _ _ _ H5D.out | exact HS.out _ _ _ hP7 | exact HS.out _ _ _ hP8) (first
                  | (go_at_call 16; refine M16.out.mono ?_; rintro e w7 ⟨rfl, hP7⟩)
                  | (go_at_call 17; refine (M17.out _ hP7).mono ?_; rintro e w8 ⟨rfl, hP8⟩))
                go_wp2
                go_meet
                case rel => exact ⟨p, r, _, _, rfl, rfl, rfl, rfl, hP8.none, HP5.out.2.cut n0 hn0⟩
              by_cases e3 : k0 = 3
              · as_aux_lemma =>
                subst e3
                have x5 : w5.cell? ⟨ab, 5, none⟩ = some (.slice ka ks.length kc) := cellOf (HP5.out.1.others _ (List.mem_singleton.2 rfl)).1 5
                have x6 : w5.cell? ⟨ab, 6, none⟩ = some (.int .i64 torn) := cellOf (HP5.out.1.others _ (List.mem_singleton.2 rfl)).1 6
                have x7 : w5.cell? ⟨ab, 7, none⟩ = some (.int .i64 at_) := cellOf (HP5.out.1.others _ (List.mem_singleton.2 rfl)).1 7
                have M18 := hid (lose_play HP5.out.1 hk HP5.out.2 ka kc ks torn at_ HKA.out hkn)
                have M19 := hid (show ∀ w7, Adds w5 w7 → Calls Try.prog 19 #[.pointer (some ⟨r, 0, none⟩), .agg #[.slice ka ks.length kc, .int .i64 torn, .int .i64 at_]] w7 (PRLs w w7 (loseE D torn at_) (D.lost ks torn at_)) from fun w7 h => rlose_play (HP5.out.1.adds' h) hk HP5.out.2 ka kc ks torn at_ HKA.out hkn)
                have M20 := hid (show ∀ w7, Adds w5 w7 → Calls Try.prog 20 #[.pointer (some ⟨p, 0, none⟩), .pointer (some ⟨r, 0, none⟩)] w7 (PLaw w7) from fun w7 h => same_play (HP5.out.1.adds' h) (by omega) HP5.out.2)
                have hE : loseE D torn at_ = 0 ∨ loseE D torn at_ = 2 := by unfold loseE; split; exact .inr rfl; exact .inl rfl
                clear x0
                generalize loseE D torn at_ = E at M18 M19 hE
                go_upto_region 25 with (go_at_call 18; refine M18.out.mono ?_; rintro e w6 ⟨x, rfl, hx, hA6⟩)
                have y5 := below_adds hA6 x5
                have y6 := below_adds hA6 x6
                have y7 := below_adds hA6 x7
                clear x5 x6 x7
                rcases hE with rfl | rfl
                · obtain ⟨q, qb, qv, rfl, hdq⟩ := hx rfl
                  go_wp2_with (first
                    | (go_at_call 19; refine (M19.out _ hA6).mono ?_; rintro e w7 ⟨y, rfl, hy, hA7⟩; obtain ⟨q2, qh, qr, rfl, hrq⟩ := hy rfl)
                    | (go_at_call 20; refine (M20.out _ (hA6.trans hA7)).mono ?_; rintro e w8 ⟨rfl, hA8⟩))
                  go_meet
                  case rel => exact ⟨q, q2, _, 0, rfl, rfl, rfl, rfl, ⟨⟨qb, qv, (hdq.adds hA7).adds hA8⟩, ⟨qh, qr, hrq.adds hA8⟩, fun x hx => (by cases hx), HP5.out.1.adds.trans ((hA6.trans hA7).trans hA8)⟩, HP5.out.2.lost ks torn at_⟩
                · clear hx
                  go_wp2_with (first
                    | (go_at_call 19; refine (M19.out _ hA6).mono ?_; rintro e w7 ⟨y, rfl, _, hA7⟩)
                    | (go_at_call 20; refine (M20.out _ (hA6.trans hA7)).mono ?_; rintro e w8 ⟨rfl, hA8⟩))
                  go_meet
                  case rel => exact ⟨p, r, D, 2, rfl, rfl, rfl, rfl, (HP5.out.1.adds' ((hA6.trans hA7).trans hA8)).none, HP5.out.2.next⟩
              by_cases e4 : k0 = 4
              · as_aux_lemma =>
                subst e4
                have H5D := hid (show Play w w5.drew p r D D [(ab, (actCells 4 i0 n0 c sh ka ks.length kc torn at_).toArray, 35)] from HP5.out.1.adds' (Touch.refl _ w5).drew)
                have M21 := hid (spoil_play H5D.out hk HP5.out.2 i0 n0 c)
                have M22 := hid (show ∀ w7, Play w w7 p r (spoilD D i0 n0 c) D [(ab, (actCells 4 i0 n0 c sh ka ks.length kc torn at_).toArray, 35)] → Calls Try.prog 22 #[.pointer (some ⟨r, 0, none⟩), .int .i64 i0, .int .i64 n0, .int .u8 (c.toNat : Int)] w7 (PGo w p r (spoilD D i0 n0 c) (spoilD D i0 n0 c) [(ab, (actCells 4 i0 n0 c sh ka ks.length kc torn at_).toArray, 35)] (spoilE D i0 n0)) from fun w7 h => rspoil_play h hk HP5.out.2 i0 n0 c)
                have HS := hid (show ∀ D1 D2 w7, Play w w7 p r D1 D2 [(ab, (actCells 4 i0 n0 c sh ka ks.length kc torn at_).toArray, 35)] → (w7.cell? ⟨ab, 1, none⟩ = some (.int .i64 i0) ∧ w7.cell? ⟨ab, 2, none⟩ = some (.int .i64 n0) ∧ w7.cell? ⟨ab, 3, none⟩ = some (.int .u8 (c.toNat : Int))) from fun D1 D2 w7 h => ⟨cellOf (h.others _ (List.mem_singleton.2 rfl)).1 1, cellOf (h.others _ (List.mem_singleton.2 rfl)).1 2, cellOf (h.others _ (List.mem_singleton.2 rfl)).1 3⟩)
                clear x0
                go_upto_region 32 with fail
                go_region_held3 (fun w' => w'.cell? ⟨ab, 1, none⟩ = some (.int .i64 i0) ∧ w'.cell? ⟨ab, 2, none⟩ = some (.int .i64 n0) ∧ w'.cell? ⟨ab, 3, none⟩ = some (.int .u8 (c.toNat : Int))) (first | exact HS.out _ _ _ H5D.out | exact HS.out _ _ _ hP7 | exact HS.out _ _ _ hP8) (first
                  | (go_at_call 21; refine M21.out.mono ?_; rintro e w7 ⟨rfl, hP7⟩)
                  | (go_at_call 22; refine (M22.out _ hP7).mono ?_; rintro e w8 ⟨rfl, hP8⟩))
                go_wp2
                go_meet
                case rel => exact ⟨p, r, _, _, rfl, rfl, rfl, rfl, hP8.none, HP5.out.2.spoil i0 n0 c⟩
              as_aux_lemma =>
              have d0 : (k0 == 0) = false := by simp [e0]
              have d1 : (k0 == 1) = false := by simp [e1]
              have d2 : (k0 == 2) = false := by simp [e2]
              have d3 : (k0 == 3) = false := by simp [e3]
              have d4 : (k0 == 4) = false := by simp [e4]
              clear e0 e1 e2 e3 e4
              go_wp2
              go_meet
              case rel => exact ⟨p, r, D, 0, rfl, rfl, rfl, rfl, HP5.out.1.none, HP5.out.2.next⟩
            case rest =>
              rename World => w8
              clear x0 HP5
              obtain ⟨p', r', D', E, rfl, rfl, rfl, rfl, HP8⟩ := hcut
              have M20 := hid (same_play HP8.out.1 (by omega) HP8.out.2)
              go_wp2_with (go_at_call 20; refine M20.out.mono ?_; rintro e w9 ⟨rfl, hA9⟩)
              go_roundw
              case rel =>
                exact ⟨k + 1, p', r', D', by omega, by go_num, rfl, rfl, HP8.out.1.adds' hA9, HP8.out.2⟩
              case measure => simp [intOf]; omega
        · by_cases hkl : k < len
          · have hk25 : k = 25 := by
              have : ¬ k < 25 := fun h => hlt ⟨hkl, h⟩
              omega
            subst hk25
            clear hlt
            go_wp2_with (go_at_call 10; refine (works_any _).mono ?_; rintro e w9 ⟨rfl, hA9⟩)
            go_ret
            exact ⟨rfl, HH.out.1.adds.trans hA9⟩
          · clear hlt
            go_wp2_with (go_at_call 10; refine (works_any _).mono ?_; rintro e w9 ⟨rfl, hA9⟩)
            go_ret
            exact ⟨rfl, HH.out.1.adds.trans hA9⟩

end Plays
end Go.Proofs.Ytjjknckcodhnmaa
