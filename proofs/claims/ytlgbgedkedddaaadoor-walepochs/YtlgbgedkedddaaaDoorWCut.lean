/- A group's pieces. -/
import Derived.Test.YtlgbgedkedddaaaDoorWRecs
namespace Go.Proofs.YtlgbgedkedddaaaDoor
open Go.RowKit

def W.pieces (g : List UInt8) : List (List UInt8) := (List.range (W.secs g.length)).map (W.piece (W.full g))
set_option maxRecDepth 100000 in
theorem run_mid (b len cap l h : Nat) (h1 : l < h) (h2 : h ≤ cap) (w : World) : (Instr.sliceAt 22 (.slice (some ⟨b, 0, none⟩) len cap) (some (.int .i64 (l : Int))) (some (.int .i64 (h : Int))) (some (.int .i64 (h : Int)))).run Tryd.prog w = .ok (.slice (some ⟨b, l, none⟩) (h - l) (h - l)) w := by
  have hsz : (sizeOf 5).run Tryd.prog w = .ok 1 w := by kernel_rfl
  rw [run_sliceAt_slice w 22 _ _ _ _ Tryd.underlying22, run_slice_lhm w 22 _ len cap Tryd.underlying22 .i64 .i64 .i64 l h h (by omega) (by omega) (by omega) (by omega)]
  have he : Tryd.prog.elem 22 = 5 := by kernel_rfl
  rw [he, hsz]
  simp only [Result.andThen, sliced, Int.toNat_natCast, Nat.mul_one]
  rw [if_neg (by omega)]
  simp [Addr.add_mid]

set_option maxRecDepth 100000 in
theorem cut_mem {w w2 wr w5 : World} {v v5 : Value} {hs : List Part} {g : List UInt8} {ab ac n k sc X PL : Nat} {i : Value} (hF : Fresh w.heap.size wr v hs) (hbs : hs.map (·.bs) = (List.range k).map (W.piece (W.full g))) (hv : ∀ j, v.ownBlock = some j → w2.heap.size ≤ j) (hA : Adds w2 wr)
    (ho : w2.ownsRow X 5 1 (.slice (some ⟨ab, 0, none⟩) (4 + n) ac) (4 + n) (S (W.full g))) (hab : X ≤ ab) (hX : w.heap.size ≤ X) (hlen : hs.length = k) (hlt : k < sc)
    (hG : Grew (wr.alloc (.cells #[.slice (some ⟨ab, 233 * k, none⟩) PL PL] 22)) w5 22 v v5 (k + 1) (hs.map PV ++ [.slice (some ⟨ab, 233 * k, none⟩) PL PL])) (hP : PL = (W.piece (W.full g) k).length) (hi : i = .int .i64 ((233 * (k + 1) : Nat) : Int)) :
    ∃ (k' : Nat) (hs' : List Part), k' ≤ sc ∧ i = .int .i64 ((233 * k' : Nat) : Int) ∧ hs'.length = k' ∧ Hid (Fresh w.heap.size w5 v5 hs' ∧ hs'.map (·.bs) = (List.range k').map (W.piece (W.full g)) ∧ (∀ j, v5.ownBlock = some j → w2.heap.size ≤ j) ∧ Adds w2 w5) := by
  subst hP
  have hAt : At wr (some ⟨ab, 233 * k, none⟩) (W.piece (W.full g) k) := by
    have := (((At.own ho).suf (233 * k)).pre 233).adds hA
    rwa [Nat.zero_add] at this
  have hlow := (row_low (k := ab) ho rfl).2
  have hsz := hA.size
  refine ⟨k + 1, hs ++ [⟨some ⟨ab, 233 * k, none⟩, W.piece (W.full g) k, (W.piece (W.full g) k).length⟩], hlt, hi, by rw [List.length_append, hlen]; rfl, ?_, ?_, ?_, ?_⟩
  · refine hF.more ((Touch.refl _ wr).alloc _) (by rw [hlen]; exact hG) (by omega) ⟨(hAt.adds ((Touch.refl _ wr).alloc _)).cq (fun b o e => by cases e; exact ⟨by omega, fun c => by have := hv _ c; omega⟩), fun e => by cases e⟩
  · rw [List.map_append, hbs, List.range_succ, List.map_append]; rfl
  · exact hG.lt (by simp; omega) hv
  · exact (hA.alloc _).then hG.touch (fun j hj c => by have := hv j c; omega)
set_option maxRecDepth 100000 in
set_option maxHeartbeats 2000000 in
theorem cut_any (a : Option Addr) (g : List UInt8) (n cap : Nat) (hn : g.length = n) (w : World) (hl : n ≤ 2400000) (hcap : a = none → cap = 0) (hA : At w a g) : Calls Tryd.prog 33 #[.slice a n cap] w (PRecs w (W.pieces g)) := by
  have HP := hid (show Calls Tryd.prog 52 #[.slice none 0 0, .int .u64 (n : Int), .int .i64 4] w (POwn w (M.fix n 4)) from putFixed_any none [] 0 n 4 w (by decide) (fun _ => rfl) (At.nil _ _))
  have HC := hid (fun (w1 : World) (fa : Option Addr) (fc : Nat) (h1 : At w1 fa (M.fix n 4)) (h2 : fa = none → fc = 0) (h3 : At w1 a g) => show Calls Tryd.prog 31 #[.slice (some ⟨w1.heap.size, 0, none⟩) 2 2] (w1.alloc (.cells #[.slice fa 4 fc, .slice a n cap] 22)) (fun e w' => ∃ v, e = .returned v ∧ w'.ownsRow w1.heap.size 5 1 v (4 + n) (S (W.full g)) ∧ Adds w1 w') by
    have h : Calls Tryd.prog 31 #[.slice (some ⟨w1.heap.size, 0, none⟩) 2 2] (w1.alloc (.cells #[.slice fa (M.fix n 4).length fc, .slice a g.length cap] 22)) (fun e w' => ∃ v, e = .returned v ∧ w'.ownsRow w1.heap.size 5 1 v (M.fix n 4 ++ g).length (S (M.fix n 4 ++ g)) ∧ Adds w1 w') := concat_two ⟨fa, M.fix n 4, fc⟩ ⟨a, g, cap⟩ h1 h3 h2 hcap (by simp only [M.len_fix]; omega)
    rw [List.length_append, M.len_fix, hn] at h
    rw [W.full, hn]
    exact h)
  have HA := hid hA
  have HF := hid (show (W.full g).length = 4 + n by rw [W.len_full, hn])
  obtain ⟨sc, hsc⟩ : ∃ sc, sc = W.secs g.length := ⟨_, rfl⟩
  have hsc2 : sc = (4 + n + 232) / 233 := by rw [hsc, hn]; rfl
  have HS := hid hsc
  clear hcap hA hn hsc
  go_enter Tryd.func33, Tryd.ntmps33
  go_wp2_with (first
    | (go_at_call 52; refine HP.out.mono ?_; rintro e w1 ⟨v1, rfl, o1, A1⟩; rw [M.len_fix] at o1; obtain ⟨fa, fc, hv1, q1, q2, q3⟩ := own_cq o1; subst hv1
       have H1 := hid (And.intro A1 (And.intro q2 q3.at)); clear A1 q1 q2 q3 o1)
    | (go_at_call 31; refine (HC.out w1 fa fc H1.out.2.2 H1.out.2.1 (HA.out.adds H1.out.1)).mono ?_; rintro e w2 ⟨v2, rfl, o2, A2⟩; obtain ⟨ab, ac, hv2, hb2, hc2⟩ := Own.some o2 (by omega); subst hv2
       have H2 := hid (And.intro o2 (And.intro (H1.out.1.trans A2) (And.intro hb2 hc2))); clear o2 A2 hb2))
  go_loopw [4, 5] (fun v i wr => ∃ (k : Nat) (hs : List Part), k ≤ sc ∧ i = .int .i64 ((233 * k : Nat) : Int) ∧ hs.length = k ∧ Hid (Fresh w.heap.size wr v hs ∧ hs.map (·.bs) = (List.range k).map (W.piece (W.full g)) ∧ (∀ j, v.ownBlock = some j → w2.heap.size ≤ j) ∧ Adds w2 wr)) (fun _ i _ => 233 * sc - (intOf i).toNat)
  case atStart => exact ⟨0, [], by omega, rfl, rfl, Fresh.nil _ _, rfl, fun _ c => (by cases c), Touch.refl _ _⟩
  case round =>
    obtain ⟨k, hs, hk, rfl, hlen, HI⟩ := hrel
    by_cases hlt : k < sc
    · have h1 : 233 * k < 4 + n := by omega
      have HL := hid hlen
      clear hlen
      have HA3 := hid (fun o => show (wr.alloc o).ownsRow 0 22 1 u4 k (hs.map PV) by have q := row_touch HI.out.1.rows ((Touch.refl _ wr).alloc o) (fun _ _ => id); rw [HL.out] at q; exact q)
      by_cases hc : 4 + n < 233 * k + 233
      · have hc' : (4 + (n : Int)) < 233 * (k : Int) + 233 := by omega
        have hX : 4 + n - 233 * k = (W.piece (W.full g) k).length := by rw [W.piece, List.length_take, List.length_drop, HF.out]; omega
        have HX := hid hX
        clear hX
        go_wp2_with (first
          | (at_builtin; refine append_b1 rfl _ _ rfl u4 k (hs.map PV) rfl (HA3.out _) wr.heap.size _ rfl (cellOf (heap_alloc_new wr _) 0) rfl (by omega) ?_; intro v5 w5 G5; have HG := hid G5; clear G5))
        go_roundw
        case rel =>
          exact cut_mem HI.out.1 HI.out.2.1 HI.out.2.2.1 HI.out.2.2.2 H2.out.1 H2.out.2.2.1 H1.out.1.size HL.out hlt HG.out HX.out (by go_num)
        case measure => simp [intOf]; omega
      · have hc' : ¬ (4 + (n : Int)) < 233 * (k : Int) + 233 := by omega
        have hX : 233 = (W.piece (W.full g) k).length := by rw [W.piece, List.length_take, List.length_drop, HF.out]; omega
        have HX := hid hX
        clear hX
        go_wp2_with (first
          | (at_builtin; refine append_b1 rfl _ _ rfl u4 k (hs.map PV) rfl (HA3.out _) wr.heap.size _ rfl (cellOf (heap_alloc_new wr _) 0) rfl (by omega) ?_; intro v5 w5 G5; have HG := hid G5; clear G5))
        go_roundw
        case rel =>
          exact cut_mem HI.out.1 HI.out.2.1 HI.out.2.2.1 HI.out.2.2.2 H2.out.1 H2.out.2.2.1 H1.out.1.size HL.out hlt HG.out HX.out (by go_num)
        case measure => simp [intOf]; omega
    · have hk2 : k = sc := by omega
      have h1 : ¬ 233 * k < 4 + n := by omega
      have HL := hid (show (List.range k).map (W.piece (W.full g)) = W.pieces g by rw [W.pieces, hk2, HS.out])
      clear hlen
      go_wp2_with fail
      go_ret
      exact ⟨_, hs, rfl, HI.out.1, by rw [← HL.out]; exact HI.out.2.1, H2.out.2.1.trans HI.out.2.2.2⟩
end Go.Proofs.YtlgbgedkedddaaaDoor
