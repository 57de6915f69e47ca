/- same: a disk and the reference's in one state have the same everywhere. -/
import Derived.Test.YtjjknckcodhnmaaRef4
import Derived.Test.YtjjknckcodhnmaaPend
import Derived.Lib.BufferRead
import Derived.Deep.DeepCutAuto
namespace Go.Proofs.Ytjjknckcodhnmaa
open Go.RowKit

theorem conv_nil (w : World) : (convert 36 9 (.slice none 0 0)).run Try.prog w = .ok (Str []) w := Go.Lib.run_convert_nil_bytes w 36 9 5 0 Try.underlying36 Try.underlying5 Try.underlying9

theorem str_same (bs : List UInt8) (w : World) : (binOp .neq 9 (Str bs) (Str bs)).run Try.prog w = .ok (.bool false) w := by
  rw [Str, binOp_string_neq]; simp
theorem guard_str (bs cs : List UInt8) (w : World) : (eqGuard .neq 9 (.tmp 58) (.tmp 59) (Str bs) (Str cs)).run Try.prog w = .ok () w := by
  unfold Str
  first | rfl | (simp [eqGuard]; done) | (go_simp; done)
theorem own_at {w : World} {B : Nat} {e : TypeId} {size : Nat} {v : Value} {n : Nat} {xs : List Value} (h : w.ownsRow B e size v n xs) (hn : 0 < n) : ∃ g cap, v = .slice (some ⟨g, 0, none⟩) n cap ∧ B ≤ g := by
  rcases h.2 with ⟨_, h0⟩ | ⟨g, cap, cur, rfl, hb, _⟩
  · omega
  · exact ⟨g, cap, rfl, hb⟩
theorem own_byte {w : World} {B g cap : Nat} {bs : List UInt8} (h : w.ownsRow B 5 1 (.slice (some ⟨g, 0, none⟩) 256 cap) 256 (S bs)) (hl : bs.length = 256) (j : Nat) (hj : j < 256) :
    w.cell? ⟨g, j, none⟩ = some (.int .u8 ((bs[j]'(by omega)).toNat : Int)) ∧ w.frozen? ⟨g, j, none⟩ = false ∧
    ∀ z : Int, ∃ bs' : List UInt8, bs'.length = 256 ∧ (w.setCell ⟨g, j, none⟩ (.int .u8 (IntKind.u8.wrap z))).ownsRow B 5 1 (.slice (some ⟨g, 0, none⟩) 256 cap) 256 (S bs') := by
  refine ⟨?_, h.frozenAt j, fun z => ?_⟩
  · rw [h.cellAt j (by omega), S_get, List.getElem?_eq_getElem (by omega)]; rfl
  · obtain ⟨c, hc⟩ := Cuts.wrap_byte z
    refine ⟨bs.set j c, by rw [List.length_set]; exact hl, ?_⟩
    have := (h.stored j (.int .u8 (c.toNat : Int))).1
    rw [hc]
    have e : (S bs).set j (.int .u8 (c.toNat : Int)) = S (bs.set j c) := by simp only [S, List.map_set]; rfl
    rw [← e]; exact this

set_option maxRecDepth 100000 in
set_option maxHeartbeats 4000000 in
theorem same_any (B C p hb r : Nat) (wv hv rv : Value) (D : St) (w : World) (hd : IsDisk w B p hb wv D) (hr : IsRef w C r hv rv D) (hl : D.W.length ≤ 1000) :
    Calls Try.prog 20 #[.pointer (some ⟨p, 0, none⟩), .pointer (some ⟨r, 0, none⟩)] w (PLaw w) := by
  have hs := hr.size
  obtain ⟨g, cap, rfl, hcap, hglt, _, _⟩ := hr.heldAt
  obtain ⟨n, hn⟩ : ∃ n : Nat, D.size = n := ⟨D.size.toNat, by omega⟩
  have hnt : D.size.toNat = n := by rw [hn]; rfl
  have HNT := hid hnt
  have HN := hid hn
  have hn1 : 0 < n := by omega
  have hn2 : n ≤ 4096 := by omega
  have r0 : w.drew.cell? ⟨r, 0, none⟩ = some (.slice (some ⟨g, 0, none⟩) n cap) := by rw [← hnt]; exact cellOf hr.box 0
  have r2 : w.drew.cell? ⟨r, 2, none⟩ = some (.int .i64 D.steps) := cellOf hr.box 2
  have m24 := size_any p D.size w.drew (cellOf hd.box 0) (by omega)
  rw [hn] at m24
  have M24 := hid m24
  have M25 := hid (steps_any p D.size D.steps w.drew (cellOf hd.box 0) (cellOf hd.box 3) (by omega))
  have M26 := hid (pending_any B p hb wv D w.drew (hd.adds (Touch.refl _ _).drew) hl (by omega))
  have M37 := hid (show ∀ w5, Adds w.drew w5 → Calls Try.prog 37 #[.pointer (some ⟨r, 0, none⟩)] w5 (PPend w5 (places D.W)) from fun w5 h => rpending_any C r _ rv D w5 (hr.adds ((Touch.refl _ w).drew.trans h)) hl)
  have M36 := hid (show ∀ w5 w6 v1 v2, w5.ownsRow w.drew.heap.size 3 1 v1 (places D.W).length (I64s (places D.W)) → Adds w5 w6 → w6.ownsRow w5.heap.size 3 1 v2 (places D.W).length (I64s (places D.W)) → Calls Try.prog 36 #[v1, v2] w6 (fun e w' => e = .returned (.bool true) ∧ Adds w6 w') from fun w5 w6 v1 v2 h1 h2 h3 => by
    obtain ⟨a1, c1, rfl, i1⟩ := own_ints (own_kept h1 h2 (fun _ _ => id))
    obtain ⟨a2, c2, rfl, i2⟩ := own_ints h3
    exact ints_same a1 a2 c1 c2 (places D.W) w6 i1 i2 (by show (D.W.map _).length ≤ 1000; rw [List.length_map]; exact hl))
  have HSA := hid (show ∀ w', Adds w.drew w' → w'.cell? ⟨r, 0, none⟩ = some (.slice (some ⟨g, 0, none⟩) n cap) ∧ w'.cell? ⟨r, 2, none⟩ = some (.int .i64 D.steps) from fun w' h => ⟨below_adds h r0, below_adds h r2⟩)
  have HD := hid hd
  have HR := hid hr
  clear hd hr hn hnt hs m24 hcap hglt
  go_enter Try.func20, Try.ntmps20
  go_upto_region 1 with fail
  go_cut [35] (fun t w' => t = .bool false ∧ Adds w w')
  case first =>
    go_region_held3 (fun w' => w'.cell? ⟨r, 0, none⟩ = some (.slice (some ⟨g, 0, none⟩) n cap) ∧ w'.cell? ⟨r, 2, none⟩ = some (.int .i64 D.steps)) (first | exact ⟨r0, r2⟩ | exact HSA.out _ hA5 | exact HSA.out _ (hA5.trans hA6) | exact HSA.out _ ((hA5.trans hA6).trans hA7)) (first
      | (go_at_call 24; refine M24.out.mono ?_; rintro e _ ⟨rfl, hw⟩; rw [hw])
      | (go_at_call 25; refine M25.out.mono ?_; rintro e _ ⟨rfl, hw⟩; rw [hw])
      | (go_at_call 26; refine M26.out.mono ?_; rintro e w5 ⟨v5, rfl, hO5, hA5⟩)
      | (go_at_call 37; refine (M37.out _ hA5).mono ?_; rintro e w6 ⟨v6, rfl, hO6, hA6⟩)
      | (go_at_call 36; refine (M36.out _ _ _ _ hO5 hA6 hO6).mono ?_; rintro e w7 ⟨rfl, hA7⟩))
    go_wp2
    go_meet
    case rel => exact ⟨rfl, (Touch.refl _ w).drew.trans ((hA5.trans hA6).trans hA7)⟩
  case rest =>
    obtain ⟨rfl, hAc⟩ := hcut
    clear M24 M25 M26 M37 M36 HSA r0 r2
    go_wp2
    go_loopw [5] (fun t wr => ∃ k : Nat, k ≤ n + 2 ∧ t = .int .i64 ((k : Int) - 1) ∧ Adds w wr) (fun t _ => (n + 1 - intOf t).toNat)
    case atStart => exact ⟨0, Nat.zero_le _, rfl, hAc⟩
    case round =>
      obtain ⟨k, hk, rfl, hA⟩ := hrel
      rename World => wo
      clear hAc
      have r0 : wo.cell? ⟨r, 0, none⟩ = some (.slice (some ⟨g, 0, none⟩) n cap) := by rw [← HNT.out]; exact cellOf (HR.out.adds hA).box 0
      by_cases hlt : k < n + 2
      · have hle : (k : Int) - 1 ≤ n := by omega
        by_cases hin : 0 ≤ (k : Int) - 1 ∧ (k : Int) - 1 < D.size
        · by_cases hon : D.left = 0
          · have MR := hid (read_off p D.size ((k : Int) - 1) wo (cellOf (HD.out.adds hA).box 0) (by rw [← hon]; exact cellOf (HD.out.adds hA).box 4) (by omega) hin)
            have MS := hid (rread_off C r _ rv D ((k : Int) - 1) wo (HR.out.adds hA) hin hon)
            have hcv := conv_nil
            have hse := str_same []
            have hge := guard_str [] []
            clear hin hon
            go_wp2_with (first
              | (go_at_call 23; refine MR.out.mono ?_; rintro e _ ⟨rfl, hw⟩; rw [hw])
              | (go_at_call 38; refine MS.out.mono ?_; rintro e _ ⟨rfl, hw⟩; rw [hw]))
            go_loopw [68] (fun t wi => t = .int .i64 0 ∧ wo = wi) (fun _ _ => 0)
            case atStart => exact ⟨rfl, rfl⟩
            case round =>
              obtain ⟨rfl, hwi⟩ := hrel
              subst hwi
              go_wp2
              go_roundw
              case rel => exact ⟨k + 1, by omega, by go_num, hA⟩
              case measure => simp [intOf]; omega
          · have MR := hid (read_ok B p hb wv D ((k : Int) - 1) wo (HD.out.adds hA) hl hin hon)
            have MS := hid (show ∀ w8, Adds wo w8 → Calls Try.prog 38 #[.pointer (some ⟨r, 0, none⟩), .int .i64 ((k : Int) - 1)] w8 fun e w' => e = .returned (.tuple #[Str (hasOf D.H D.W ((k : Int) - 1)), .int .i64 0]) ∧ w' = w8 from fun w8 h => rread_ok C r _ rv D ((k : Int) - 1) w8 (HR.out.adds (hA.trans h)) hl hin hon)
            have HLEN := hid (hasOf_len ((k : Int) - 1) HD.out.good D.W HD.out.goodW)
            generalize hasOf D.H D.W ((k : Int) - 1) = bs at MR MS HLEN
            have hse := str_same bs
            have hge := guard_str bs bs
            have HCV := hid (show ∀ w8 g8 cap8, w8.ownsRow wo.heap.size 5 1 (.slice (some ⟨g8, 0, none⟩) 256 cap8) 256 (S bs) → (convert 36 9 (.slice (some ⟨g8, 0, none⟩) 256 cap8)).run Try.prog w8 = .ok (Str bs) w8 from fun w8 g8 cap8 h =>
              conv_bytes w8 g8 cap8 256 bs HLEN.out (fun j b hb => by
                have hj : j < bs.length := (List.getElem?_eq_some_iff.1 hb).1
                rw [h.cellAt j (by rw [HLEN.out] at hj; omega), S_get, hb]; rfl))
            clear hin hon
            go_wp2_with (first
              | (go_at_call 23; refine MR.out.mono ?_; rintro e w8 ⟨v8, rfl, hO8, _, hA8⟩; obtain ⟨g8, cap8, rfl, hg8⟩ := own_at hO8 (by decide); have hcv8 := HCV.out _ _ _ hO8; have HO8 := hid hO8; clear hO8)
              | (go_at_call 38; refine (MS.out _ hA8).mono ?_; rintro e _ ⟨rfl, hw⟩; rw [hw]))
            clear hcv8 HCV MR MS hse
            go_loopw [68] (fun t wi => ∃ j : Nat, j ≤ 256 ∧ t = .int .i64 j ∧ Hid (∃ bs' : List UInt8, bs'.length = 256 ∧ wi.ownsRow wo.heap.size 5 1 (.slice (some ⟨g8, 0, none⟩) 256 cap8) 256 (S bs') ∧ Adds wo wi)) (fun t _ => 256 - (intOf t).toNat)
            case atStart => exact ⟨0, by omega, rfl, bs, HLEN.out, HO8.out, hA8⟩
            case round =>
              obtain ⟨j, hj, rfl, HJ⟩ := hrel
              rename World => wi
              clear HO8 hA8
              by_cases hjl : j < 256
              · obtain ⟨bs', hl', hO, hAi⟩ := HJ.out
                obtain ⟨cj, fj, hput⟩ := own_byte hO hl' j hjl
                have HP := hid hput
                have hlt8 : g8 < wi.heap.size := (hO.lt g8 rfl).2
                clear hput hO HJ
                go_wp2
                go_roundw
                case rel =>
                  obtain ⟨bs2, e1, e2⟩ := HP.out _
                  exact ⟨j + 1, by omega, by go_num, bs2, e1, e2, hAi.setCell (fun h => absurd h (by show ¬ g8 < _; omega)) _⟩
                case measure => simp [intOf]; omega
              · obtain rfl : j = 256 := by omega
                obtain ⟨_, _, _, hAi⟩ := HJ.out
                go_wp2
                go_roundw
                case rel => exact ⟨k + 1, by omega, by go_num, hA.trans hAi⟩
                case measure => simp [intOf]; omega
        · have MR := hid (read_bad p D.size ((k : Int) - 1) wo (cellOf (HD.out.adds hA).box 0) (by rw [HN.out]; omega) hin)
          have MS := hid (rread_bad C r _ rv D ((k : Int) - 1) wo (HR.out.adds hA) hin)
          have hcv := conv_nil
          have hse := str_same []
          have hge := guard_str [] []
          clear hin
          go_wp2_with (first
            | (go_at_call 23; refine MR.out.mono ?_; rintro e _ ⟨rfl, hw⟩; rw [hw])
            | (go_at_call 38; refine MS.out.mono ?_; rintro e _ ⟨rfl, hw⟩; rw [hw]))
          go_loopw [68] (fun t wi => t = .int .i64 0 ∧ wo = wi) (fun _ _ => 0)
          case atStart => exact ⟨rfl, rfl⟩
          case round =>
            obtain ⟨rfl, hwi⟩ := hrel
            subst hwi
            go_wp2
            go_roundw
            case rel => exact ⟨k + 1, by omega, by go_num, hA⟩
            case measure => simp [intOf]; omega
      · obtain rfl : k = n + 2 := by omega
        have hle : ¬ ((n + 2 : Nat) : Int) - 1 ≤ n := by omega
        go_wp2
        go_ret
        exact ⟨rfl, hA⟩

end Go.Proofs.Ytjjknckcodhnmaa
