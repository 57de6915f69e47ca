/- The reference's Wrap. -/
import Derived.Test.YtmmgfankbabfbaaDoorQ07
import Derived.Test.YtmmgfankbabfbaaDoorQ39
namespace Go.Proofs.YtmmgfankbabfbaaDoor
open Go.RowKit

set_option maxRecDepth 100000 in
theorem At.pair (w : World) (c d : UInt8) : At (w.alloc (.cells #[.int .u8 (c.toNat : Int), .int .u8 (d.toNat : Int)] 5)) (some ⟨w.heap.size, 0, none⟩) [c, d] := by
  intro j x hj
  refine ⟨_, _, rfl, ?_⟩
  rw [cell_of_row _ _ _ _ _ _ (heap_alloc_new w _)]
  match j, hj with
  | 0, hj => obtain rfl : c = x := Option.some.inj hj; rfl
  | 1, hj => obtain rfl : d = x := Option.some.inj hj; rfl
  | j + 2, hj => simp at hj
set_option maxRecDepth 100000 in
theorem own_app {w : World} {base n : Nat} {v : Value} {k ls l : List UInt8} (hn : k.length = n) (hl : l = k ++ ls) (h : w.ownsRow base 5 1 v (n + ls.length) (S k ++ S ls)) : w.ownsRow base 5 1 v l.length (S l) := by
  subst hl hn
  rw [List.length_append, S, List.map_append]; exact h
/-- A slice's length. -/
def lenV : Value → Nat
  | .slice _ n _ => n
  | _ => 0
set_option maxRecDepth 100000 in
theorem rfixed8 (n : Nat) (hn : n < 18446744073709551616) (w : World) : Calls Tryd.prog 71 #[.int .u64 (n : Int), .int .i64 8] w fun e w' => ∃ a cap, e = .returned (.slice a 8 cap) ∧ Hid (w'.ownsRow w.heap.size 5 1 (.slice a 8 cap) 8 (S (M.fix n 8)) ∧ Lies w' w'.heap.size a (M.fix n 8) cap) ∧ Adds w w' := by
  have h := rfixedp_any n hn 8 w
  rw [show M.clamp 8 = 8 from rfl] at h
  refine h.mono ?_
  rintro e w' ⟨v, rfl, h1, h2⟩
  obtain ⟨a, cap, rfl, h3⟩ := Own.lies h1
  rw [M.len_fix] at h1
  exact ⟨a, cap, by rw [M.len_fix], ⟨h1, h3⟩, h2⟩
set_option maxRecDepth 100000 in
theorem M.pad_next (p : List UInt8) (j : Nat) : p ++ List.replicate (j + 1) 0 = (p ++ List.replicate j 0) ++ [0] := by
  rw [List.append_assoc, List.replicate_succ']

set_option maxRecDepth 100000 in
set_option maxHeartbeats 2000000 in
theorem rswrap_inv (n : Nat) (k : UInt8) (a : Option Addr) (m cap : Nat) (w : World) (h : n = 0 ∨ k = 0) : Calls Tryd.prog 48 #[.int .u64 (n : Int), .int .u8 (k.toNat : Int), .slice a m cap] w fun e w' => e = .returned (.tuple #[.slice none 0 0, .int .i64 2]) ∧ w' = w := by
  by_cases hn : n = 0
  · subst hn
    go_enter Tryd.func48, Tryd.ntmps48
    go_wp2
    go_ret2
    exact ⟨rfl, rfl⟩
  · obtain rfl := h.resolve_left hn
    have hnb : ((n : Int) == 0) = false := beq_eq_false_iff_ne.2 (by omega)
    go_enter Tryd.func48, Tryd.ntmps48
    go_wp2
    go_ret2
    exact ⟨rfl, rfl⟩
set_option maxRecDepth 100000 in
set_option maxHeartbeats 2000000 in
theorem rswrap_big (n : Nat) (k : UInt8) (a : Option Addr) (m cap : Nat) (w : World) (hn : n ≠ 0) (hk : k ≠ 0) (hm : 233 < m) : Calls Tryd.prog 48 #[.int .u64 (n : Int), .int .u8 (k.toNat : Int), .slice a m cap] w fun e w' => e = .returned (.tuple #[.slice none 0 0, .int .i64 3]) ∧ w' = w := by
  have hnb : ((n : Int) == 0) = false := beq_eq_false_iff_ne.2 (by omega)
  have hkb : ((k.toNat : Int) == 0) = false := beq_eq_false_iff_ne.2 (fun e => hk (UInt8.toNat_inj.1 (by simpa using (show k.toNat = 0 by omega))))
  go_enter Tryd.func48, Tryd.ntmps48
  go_wp2
  go_ret2
  exact ⟨rfl, rfl⟩
set_option maxRecDepth 100000 in
set_option maxHeartbeats 2000000 in
theorem rswrap_ok (n : Nat) (hn2 : n < 18446744073709551616) (k : UInt8) (a : Option Addr) (b : List UInt8) (cap : Nat) (w : World) (hn : n ≠ 0) (hk : k ≠ 0) (hb : b.length ≤ 233) (hc : a = none → cap = 0) (hA : At w a b) :
    Calls Tryd.prog 48 #[.int .u64 (n : Int), .int .u8 (k.toNat : Int), .slice a b.length cap] w fun e w' => ∃ ay cy, e = .returned (.tuple #[.slice ay 256 cy, .int .i64 0]) ∧ At w' ay (M.sector n k b) ∧ Adds w w' := by
  have hnb : ((n : Int) == 0) = false := beq_eq_false_iff_ne.2 (by omega)
  have hkb : ((k.toNat : Int) == 0) = false := beq_eq_false_iff_ne.2 (fun e => hk (UInt8.toNat_inj.1 (by simpa using (show k.toNat = 0 by omega))))
  have HA := hid (And.intro hb (And.intro hc hA))
  have HF := hid (M.len_fix 8 n)
  have HN := hid hn2
  have hb' : ¬ (233 : Int) < (b.length : Int) := by omega
  obtain ⟨l, hl⟩ : ∃ l, l = UInt8.ofNat b.length := ⟨_, rfl⟩
  have hl1 : (b.length : Int) % 256 = (l.toNat : Int) := by rw [hl, M.ofNat_toNat _ (by omega)]; omega
  have hl2 : IntKind.u8.wrap (b.length : Int) = (l.toNat : Int) := by rw [← hl1]; rfl
  obtain ⟨p, hp⟩ : ∃ p, p = (M.fix n 8 ++ [k, l]) ++ b := ⟨_, rfl⟩
  have hpl : p.length = 10 + b.length := by rw [hp, List.length_append, List.length_append, M.len_fix]; rfl
  have HP := hid hp
  have HH := hid (show p ++ List.replicate (234 - b.length) 0 = M.head n k b by rw [hp, hl]; unfold M.head; simp only [List.append_assoc])
  clear hn hk hb hc hA hl hn2 hp
  go_enter Tryd.func48, Tryd.ntmps48
  go_wp2_with (first
    | (go_at_call 71; refine (rfixed8 n HN.out _).mono ?_; rintro e w1 ⟨a1, c1, rfl, hO, hA⟩; have O1 := hO; have A1 := hid hA; have K1 := hid (hO.out.1.kept (World.grownBy_alloc w1 (.cells #[.int .u8 (k.toNat : Int), .int .u8 (l.toNat : Int)] 5) none) (own_none _)); clear hA hO)
    | (at_builtin; refine append_bytes rfl _ _ rfl w.heap.size v2 10 (S (M.fix n 8 ++ [k, l])) rfl O2.out.1 a b cap rfl HA.out.2.1 (HA.out.2.2.adds O2.out.2) (by have := HA.out.1; omega) O2.out.2.size ?_; intro v3 w3 hown1 hgrow1 hne1; have O3 := hid (And.intro (show w3.ownsRow w.heap.size 5 1 v3 p.length (S p) from own_app (by rw [List.length_append, HF.out]; rfl) HP.out hown1) (show Adds w w3 from Touch.grown O2.out.2 hgrow1 (fun j hj hlt => by have := (O2.out.1.lt j hj).1; omega))); clear hown1 hgrow1 hne1)
    | (at_builtin; refine append_bytes rfl _ _ rfl w.heap.size (.slice a1 8 c1) 8 (S (M.fix n 8)) rfl K1.out (some ⟨w1.heap.size, 0, none⟩) [k, l] 2 rfl (fun e => by cases e) (At.pair w1 k l) (by simp) (by have := A1.out.size; simp; omega) ?_; intro v2 w2 hown1 hgrow1 hne1; have O2 := hid (And.intro (show w2.ownsRow w.heap.size 5 1 v2 10 (S (M.fix n 8 ++ [k, l])) by rw [S, List.map_append]; exact hown1) (show Adds w w2 from Touch.grown (A1.out.alloc _) hgrow1 (fun j hj hlt => by have := (O1.out.1.lt j hj).1; omega))); clear hown1 hgrow1 hne1))
  clear hl1 hl2 hnb hkb O1 A1 K1 O2
  go_loopw [8] (fun v wz => ∃ j : Nat, j ≤ 234 - b.length ∧ Hid (wz.ownsRow w.heap.size 5 1 v (p ++ List.replicate j 0).length (S (p ++ List.replicate j 0)) ∧ Adds w wz)) (fun v _ => 244 - lenV v)
  case atStart => exact ⟨0, Nat.zero_le _, by rw [List.replicate_zero, List.append_nil]; exact O3.out⟩
  case round =>
    obtain ⟨j, hj, HI⟩ := hrel
    have hlen : (p ++ List.replicate j (0 : UInt8)).length = 10 + b.length + j := by rw [List.length_append, List.length_replicate, hpl]
    have HNX := hid (M.pad_next p j)
    by_cases hlt : j < 234 - b.length
    · obtain ⟨q, hq⟩ : ∃ q, q = p ++ List.replicate j (0 : UInt8) := ⟨_, rfl⟩
      rw [← hq] at HI hlen HNX
      clear hq
      obtain ⟨aj, cj, rfl, hL⟩ := Own.lies HI.out.1
      have hq244 : (q.length : Int) < 244 := by omega
      have HO := hid (HI.out.1.kept (World.grownBy_alloc wr (.cells #[.int .u8 0] 5) none) (own_none _))
      have HZ := hid (show At (wr.alloc (.cells #[.int .u8 0] 5)) (some ⟨wr.heap.size, 0, none⟩) [0] from At.one wr 0)
      clear hL
      go_wp2_with (first
        | (at_builtin; refine append_bytes rfl _ _ rfl w.heap.size (.slice aj q.length cj) q.length (S q) rfl HO.out (some ⟨wr.heap.size, 0, none⟩) [0] 1 rfl (fun e => by cases e) HZ.out (by simp; omega) (by have := HI.out.2.size; simp; omega) ?_; intro v1 w1' hown1 hgrow1 hne1; have Q1 := hid (And.intro (own_snoc HNX.out hown1) (show Adds w w1' from Touch.grown (HI.out.2.alloc _) hgrow1 (fun j hj hlt => by have := (HI.out.1.lt j hj).1; omega))); clear hown1 hgrow1 hne1))
      go_roundw
      case rel => exact ⟨j + 1, by omega, Q1.out⟩
      case measure =>
        obtain ⟨a9, c9, rfl, _⟩ := Own.lies Q1.out.1
        show 244 - lenV (.slice a9 (p ++ List.replicate (j + 1) 0).length c9) < 244 - lenV (.slice aj q.length cj)
        rw [HNX.out]
        simp only [lenV, List.length_append, List.length_cons, List.length_nil]
        omega
    · obtain rfl : j = 234 - b.length := by omega
      have hL244 := hlen
      rw [HH.out] at HI hlen
      obtain ⟨q, hq⟩ : ∃ q, q = M.head n k b := ⟨_, rfl⟩
      have HQ := hid hq
      rw [← hq] at HI hlen
      clear hq
      obtain ⟨aj, cj, rfl, hL⟩ := Own.lies HI.out.1
      have hql : q.length = 244 := by have := HA.out.1; omega
      have HSE := hid (rseal_any aj q cj wr (by omega) hL.non hL.at_)
      rw [hql] at HSE HI ⊢
      clear hL hlen hL244
      go_wp2_with (first
        | (go_at_call 72; refine HSE.out.mono ?_; rintro e w5 ⟨gs, cs, rfl, hgs, hown, hA⟩; rw [hql] at hown ⊢; have O5 := hid (And.intro (own_base hown HI.out.2.size) (HI.out.2.trans hA)); clear hgs hown hA)
        | (go_at_call 71; refine (rfixed8 n HN.out _).mono ?_; rintro e w6 ⟨a6, c6, rfl, hO, hA⟩; have O6 := hO; have A6 := hid hA; clear hA hO)
        | (at_builtin; refine append_bytes rfl _ _ rfl w.heap.size (.slice (some ⟨gs, 0, none⟩) (244 + 4) cs) (244 + 4) (S (sealed q)) rfl (own_adds O5.out.1 A6.out) a6 (M.fix n 8) c6 (by rw [HF.out]; rfl) O6.out.2.non O6.out.2.at_ (by rw [HF.out]; decide) (O5.out.2.trans A6.out).size ?_; intro v7 w7 hown1 hgrow1 hne1; have O7 := hid (And.intro hown1 (show Adds w w7 from Touch.grown (O5.out.2.trans A6.out) hgrow1 (fun j hj hlt => by have := (O5.out.1.lt j hj).1; omega))); clear hown1 hgrow1 hne1))
      go_ret2
      have hsl : (sealed q).length = 244 + 4 := by rw [len_sealed, hql]
      have h7 := own_app hsl (show M.sector n k b = sealed q ++ M.fix n 8 by rw [HQ.out]; rfl) O7.out.1
      have hls := M.len_sector n k b HA.out.1
      obtain ⟨a8, c8, e8, hL8⟩ := Own.lies h7
      rw [hls] at e8
      subst e8
      exact ⟨a8, c8, rfl, hL8.at_, O7.out.2⟩
end Go.Proofs.YtmmgfankbabfbaaDoor
