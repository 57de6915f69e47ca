/- A group's records. -/
import Derived.Test.YtlgbgedkedddaaaDoorWLeaf
namespace Go.Proofs.YtlgbgedkedddaaaDoor
open Go.RowKit

set_option maxRecDepth 100000 in
/-- What lies above a reader may turn. -/
theorem RD.above {w w' : World} {T : Nat → Prop} {p : Nat} {s : M.St} (h : RD w (Ptr p) s) (hT : Touch T w w') (hp : ∀ k, T k → p < k) : RD w' (Ptr p) s := by
  rcases h with ⟨e, _⟩ | ⟨q, e, hb, hs⟩ | ⟨q, e, hR⟩
  · cases e
  · obtain rfl : p = q := by simpa using e
    exact .inr (.inl ⟨p, rfl, hT.at' hb (fun c => by have := hp p c; omega), hs⟩)
  · obtain rfl : p = q := by simpa using e
    obtain ⟨a, cap, hb, hL⟩ := hR.box
    refine .inr (.inr ⟨p, rfl, ⟨⟨a, cap, hT.at' hb (fun c => by have := hp p c; omega), ⟨hL.at_.block (fun b o e hb => hT.block b hb (fun c => by have h1 : b < p := (hL.low _ e).2; have := hp b c; omega)), hL.room, hL.non, hL.low⟩⟩, hR.good, hR.len, hR.err⟩⟩)
/-- A list of slices in new memory. -/
structure Fresh (B : Nat) (w : World) (v : Value) (hs : List Part) : Prop where
  rows : w.ownsRow 0 22 1 v hs.length (hs.map PV)
  own : ∀ k, v.ownBlock = some k → B ≤ k
  data : ∀ x ∈ hs, PQ w (fun k => B ≤ k ∧ v.ownBlock ≠ some k) x
theorem Fresh.touch {B : Nat} {w w' : World} {T : Nat → Prop} {v : Value} {hs : List Part} (h : Fresh B w v hs) (hT : Touch T w w') (hn : ∀ k, B ≤ k → ¬ T k) : Fresh B w' v hs :=
  ⟨row_touch h.rows hT (fun k hk => hn k (h.own k hk)), h.own, fun x hx => (h.data x hx).touch hT (fun k q => hn k q.1)⟩
theorem Fresh.low {B C : Nat} {w : World} {v : Value} {hs : List Part} (h : Fresh B w v hs) (hB : C ≤ B) : Fresh C w v hs :=
  ⟨h.rows, fun k hk => Nat.le_trans hB (h.own k hk), fun x hx => (h.data x hx).mono (fun _ _ q => ⟨Nat.le_trans hB q.1, q.2⟩)⟩
theorem Fresh.nil (B : Nat) (w : World) : Fresh B w (.slice none 0 0) [] := ⟨World.ownsRow_nil _ _ _ _, fun _ hk => (by cases hk), fun _ hx => (by cases hx)⟩
set_option maxRecDepth 100000 in
/-- One more. -/
theorem Fresh.more {B : Nat} {w w1 w2 : World} {v v' : Value} {hs : List Part} {x : Part} (h : Fresh B w v hs) (hA : Adds w w1) (hG : Grew w1 w2 22 v v' (hs.length + 1) (hs.map PV ++ [PV x])) (hB : B ≤ w.heap.size) (hx : PQ w1 (fun k => B ≤ k ∧ v.ownBlock ≠ some k) x) : Fresh B w2 v' (hs ++ [x]) := by
  have hw := hA.size
  have hlt : ∀ k, k < w1.heap.size → v.ownBlock ≠ some k → v'.ownBlock ≠ some k := fun k hk hn c => by
    rcases hG.2.2 with e | e
    · exact hn (by rw [← e]; exact c)
    · rw [e] at c; cases c; omega
  refine ⟨by rw [List.length_append, List.map_append]; exact hG.1, hG.lt (by omega) h.own, fun y hy => ?_⟩
  rcases List.mem_append.1 hy with hy | hy
  · have q := ((h.data y hy).adds hA).mono (Q' := fun k => B ≤ k ∧ v.ownBlock ≠ some k ∧ v'.ownBlock ≠ some k) (fun k hk q => ⟨q.1, q.2, hlt k hk q.2⟩)
    exact (q.touch hG.touch (fun k q => q.2.1)).mono (fun k _ q => ⟨q.1, q.2.2⟩)
  · obtain rfl := List.mem_singleton.1 hy
    have q := hx.mono (Q' := fun k => B ≤ k ∧ v.ownBlock ≠ some k ∧ v'.ownBlock ≠ some k) (fun k hk q => ⟨q.1, q.2, hlt k hk q.2⟩)
    exact (q.touch hG.touch (fun k q => q.2.1)).mono (fun k _ q => ⟨q.1, q.2.2⟩)
/-- What records tells. -/
def PRecs (w : World) (ls : List (List UInt8)) (e : Ending) (w' : World) : Prop := ∃ v hs, e = .returned v ∧ Hid (Fresh w.heap.size w' v hs ∧ hs.map (·.bs) = ls ∧ Adds w w')

set_option maxRecDepth 100000 in
theorem str_part (bs : List UInt8) (w : World) : ∃ cap w1, (convert 9 22 (.string ⟨bs.toArray⟩)).run Tryd.prog w = .ok (.slice (some ⟨w.heap.size, 0, none⟩) bs.length cap) w1 ∧ PQ w1 (fun k => k = w.heap.size) ⟨some ⟨w.heap.size, 0, none⟩, bs, cap⟩ ∧ Adds w w1 := by
  obtain ⟨cap, w1, h1, h2, h3⟩ := str_bytes bs w
  exact ⟨cap, w1, h1, ⟨h2.cq (fun b o e => by cases e; rfl), fun e => by cases e⟩, h3⟩

set_option maxRecDepth 100000 in
set_option maxHeartbeats 2000000 in
theorem records_any (a : Option Addr) (g : List UInt8) (n cap : Nat) (hn : g.length = n) (w : World) (hl : n ≤ 1000000) (hcap : a = none → cap = 0) (hA : At w a g) : Calls Tryd.prog 34 #[.slice a n cap] w (PRecs w (W.recs g)) := by
  have HR := hid (show Calls Tryd.prog 53 #[.slice a n cap] w (PRead w g) by rw [← hn]; exact read_any a g cap w (by omega) hcap hA)
  obtain ⟨s0, hs0⟩ : ∃ s0, s0 = (M.uintR g.length ⟨0, g⟩).2 := ⟨_, rfl⟩
  obtain ⟨N, hN⟩ : ∃ N, N = (M.uintR g.length ⟨0, g⟩).1 := ⟨_, rfl⟩
  have hN1 : N ≤ n := by rw [hN, ← hn]; exact (M.uintR_lt _ _).2
  have HU := hid (fun w1 p (h : RD w1 (Ptr p) ⟨0, g⟩) => show Calls Tryd.prog 54 #[Ptr p, .int .u64 (n : Int)] w1 (PR w1 (Ptr p) (.int .u64 (N : Int)) s0) by rw [hN, hs0, ← hn]; exact uint_any g.length h)
  have HT := hid (fun w1 p s (h : RD w1 (Ptr p) s) => show Calls Tryd.prog 55 #[Ptr p, .int .i64 (n : Int)] w1 (PR w1 (Ptr p) (.string ⟨(M.textR (n : Int) s).1.toArray⟩) (M.textR (n : Int) s).2) from text_any (n : Int) (by omega) h)
  have HE := hid (fun w1 p s (h : RD w1 (Ptr p) s) => end_any h)
  have HQ := hid (show W.recs g = if M.endE (W.stN (n : Int) s0 N) = 0 then W.lsN (n : Int) s0 N else [] by rw [W.recs, W.recsM, hN, hs0, hn])
  clear hcap hA hs0 hN hn
  go_enter Tryd.func34, Tryd.ntmps34
  go_wp2_with (first
    | (go_at_call 53; refine HR.out.mono ?_; rintro e w1 ⟨p, rfl, hp, hr, hA1⟩; have H1 := hid (And.intro hp (And.intro hr hA1)); clear hp hr hA1)
    | (go_at_call 54; refine (HU.out w1 p H1.out.2.1).mono ?_; rintro e w2 ⟨rfl, hr2, hT2⟩; have H2 := hid (And.intro hr2 (Adds.own H1.out.2.2 hT2 H1.out.1)); clear hr2 hT2))
  go_loopw [4, 12] (fun v i wr => ∃ (k : Nat) (hs : List Part), k ≤ N ∧ i = .int .u64 (k : Int) ∧ hs.length = k ∧ Hid (Fresh (p + 1) wr v hs ∧ hs.map (·.bs) = W.lsN (n : Int) s0 k ∧ RD wr (Ptr p) (W.stN (n : Int) s0 k) ∧ Adds w wr)) (fun _ i _ => N - (intOf i).toNat)
  case atStart => exact ⟨0, [], by omega, rfl, rfl, Fresh.nil _ _, rfl, H2.out.1, H2.out.2⟩
  case round =>
    obtain ⟨k, hs, hk, rfl, hlen, HI⟩ := hrel
    by_cases hlt : k < N
    · obtain ⟨t, ht⟩ : ∃ t, t = (M.textR (n : Int) (W.stN (n : Int) s0 k)).1 := ⟨_, rfl⟩
      have HX := hid (HT.out wr p _ HI.out.2.2.1)
      rw [← ht] at HX
      have HL := hid (And.intro ht hlen)
      clear ht hlen
      go_wp2_with (first
        | (go_at_call 55; refine HX.out.mono ?_; rintro e w3 ⟨rfl, hr3, hT3⟩
           obtain ⟨cx, w4, hrx, hpx, hAx⟩ := str_part t w3
           have hF3 := HI.out.1.touch hT3 (fun k hk c => by simp only [Own1, Value.pointer.injEq, Option.some.injEq, Addr.mk.injEq] at c; omega)
           have HA3 := hid (show (w4.alloc (.cells #[.slice (some ⟨w3.heap.size, 0, none⟩) t.length cx] 22)).ownsRow 0 22 1 u4 k (hs.map PV) by have q := row_touch hF3.rows (hAx.alloc (.cells #[.slice (some ⟨w3.heap.size, 0, none⟩) t.length cx] 22)) (fun _ _ => id); rw [HL.out.2] at q; exact q)
           have HA4 := hid (show (w4.alloc (.cells #[.slice (some ⟨w3.heap.size, 0, none⟩) t.length cx] 22)).cell? ⟨w4.heap.size, 0, none⟩ = some (.slice (some ⟨w3.heap.size, 0, none⟩) t.length cx) from cellOf (heap_alloc_new w4 _) 0)
           have H3 := hid (And.intro hr3 (And.intro hF3 (And.intro hpx (And.intro hAx (Adds.own HI.out.2.2.2 hT3 H1.out.1)))))
           clear hr3 hT3 hpx hAx hF3)
        | (at_builtin; refine append_b1 rfl _ _ rfl u4 k (hs.map PV) rfl HA3.out w4.heap.size (.slice (some ⟨w3.heap.size, 0, none⟩) t.length cx) rfl HA4.out rfl (by omega) ?_; intro v5 w5 G5; have HG := hid G5; clear G5))
      go_roundw
      case rel =>
        obtain ⟨hr3, hF3, hpx, hAx, hA3⟩ := H3.out
        have hAy : Adds w3 (w4.alloc (.cells #[.slice (some ⟨w3.heap.size, 0, none⟩) t.length cx] 22)) := hAx.alloc _
        have hp3 : p < w3.heap.size := hr3.lt
        have hG := HG.out
        refine ⟨k + 1, hs ++ [⟨some ⟨w3.heap.size, 0, none⟩, t, cx⟩], by omega, by go_num, by simp [HL.out.2], ?_, ?_, ?_, ?_⟩
        · refine hF3.more hAy (by rw [HL.out.2]; exact hG) hp3 ?_
          exact (hpx.adds ((Touch.refl _ w4).alloc _)).mono (fun j _ q => ⟨by omega, fun c => by have := (row_low hF3.rows c).2; omega⟩)
        · rw [List.map_append, HI.out.2.1, W.lsN, ← HL.out.1]; rfl
        · exact (hr3.above hAy (fun _ c => c.elim)).above hG.touch (fun j c => hF3.own j c)
        · exact (hA3.trans hAy).then hG.touch (fun j hj c => by have := hF3.own j c; have := H1.out.1; omega)
      case measure => simp [intOf]; omega
    · obtain rfl : k = N := by omega
      have HX := hid (HE.out wr p _ HI.out.2.2.1)
      by_cases hz : M.endE (W.stN (n : Int) s0 k) = 0
      · rw [hz] at HX
        have HW := hid (show W.recs g = W.lsN (n : Int) s0 k by rw [HQ.out, if_pos hz])
        clear hz
        go_wp2_with (first | (go_at_call 56; refine HX.out.mono ?_; rintro e _ ⟨rfl, hw⟩; rw [hw]; clear hw))
        go_ret
        exact ⟨_, hs, rfl, HI.out.1.low (by have := H1.out.1; omega), by rw [HW.out]; exact HI.out.2.1, HI.out.2.2.2⟩
      · have HW := hid (show W.recs g = [] by rw [HQ.out, if_neg hz])
        obtain ⟨z, hz2⟩ : ∃ z, z = M.endE (W.stN (n : Int) s0 k) := ⟨_, rfl⟩
        rw [← hz2] at HX hz
        have hz' : ¬ (z : Int) = 0 := by omega
        clear hz hz2
        go_wp2_with (first | (go_at_call 56; refine HX.out.mono ?_; rintro e _ ⟨rfl, hw⟩; rw [hw]; clear hw))
        go_ret
        exact ⟨_, [], rfl, Fresh.nil _ _, by rw [HW.out]; rfl, HI.out.2.2.2⟩
end Go.Proofs.YtlgbgedkedddaaaDoor
