/- Wrap, of whatever stamp, kind and body. -/
import Derived.Test.YtahbggdidhmnfaaDoorCopy
namespace Go.Proofs.YtahbggdidhmnfaaDoor
open Go.RowKit

namespace M
theorem rep_drop (m d : Nat) : (List.replicate m (0 : UInt8)).drop d = List.replicate (m - d) 0 := List.drop_replicate
set_option maxRecDepth 100000 in
theorem step1 (n : Nat) : (List.replicate 256 (0 : UInt8)).take 0 ++ fix n 8 ++ (List.replicate 256 0).drop (0 + (fix n 8).length) = fix n 8 ++ List.replicate 248 0 := by
  rw [len_fix, rep_drop, List.take_zero, List.nil_append]
set_option maxRecDepth 100000 in
theorem step2 (n : Nat) (k l : UInt8) : ((fix n 8 ++ List.replicate 248 0).set 8 k).set 9 l = fix n 8 ++ (k :: l :: List.replicate 246 0) := by
  have h := len_fix 8 n
  rw [List.set_append_right _ _ (by omega), List.set_append_right _ _ (by omega), h]
  rfl
set_option maxRecDepth 100000 in
theorem step3 (n : Nat) (k : UInt8) (b : List UInt8) (h : b.length ≤ 233) : (fix n 8 ++ (k :: UInt8.ofNat b.length :: List.replicate 246 0)).take 10 ++ b ++ (fix n 8 ++ (k :: UInt8.ofNat b.length :: List.replicate 246 0)).drop (10 + b.length) = head n k b ++ List.replicate 12 0 := by
  have hl := len_fix 8 n
  have e1 : (fix n 8 ++ (k :: UInt8.ofNat b.length :: List.replicate 246 0)).take 10 = fix n 8 ++ [k, UInt8.ofNat b.length] := by
    rw [List.take_append, hl, List.take_of_length_le (by omega)]; rfl
  have e2 : (fix n 8 ++ (k :: UInt8.ofNat b.length :: List.replicate 246 0)).drop (10 + b.length) = List.replicate (246 - b.length) 0 := by
    rw [show 10 + b.length = 8 + (2 + b.length) by omega, ← List.drop_drop, List.drop_left' hl, ← List.drop_drop]
    exact rep_drop 246 b.length
  rw [e1, e2]
  unfold head
  simp only [List.append_assoc]
  rw [List.replicate_append_replicate, show 234 - b.length + 12 = 246 - b.length by omega]
set_option maxRecDepth 100000 in
theorem step4 (h : List UInt8) (hh : h.length = 244) : (h ++ List.replicate 12 0).take 0 ++ sealed h ++ (h ++ List.replicate 12 0).drop (0 + (sealed h).length) = sealed h ++ List.replicate 8 0 := by
  rw [len_sealed, hh, List.take_zero, List.nil_append, show 0 + (244 + 4) = 244 + 4 from rfl, ← List.drop_drop, List.drop_left' hh, rep_drop]
set_option maxRecDepth 100000 in
theorem step5 (s f : List UInt8) (hs : s.length = 248) (hf : f.length = 8) : (s ++ List.replicate 8 0).take 248 ++ f ++ (s ++ List.replicate 8 0).drop (248 + f.length) = s ++ f := by
  rw [hf, List.take_left' hs, ← List.drop_drop, List.drop_left' hs, rep_drop]
  simp
set_option maxRecDepth 100000 in
theorem at8 (n : Nat) : (fix n 8 ++ List.replicate 248 (0 : UInt8))[8]? = some 0 := by
  rw [List.getElem?_append_right (by rw [len_fix]; decide), len_fix]; rfl
set_option maxRecDepth 100000 in
theorem at9 (n : Nat) : (fix n 8 ++ List.replicate 248 (0 : UInt8))[9]? = some 0 := by
  rw [List.getElem?_append_right (by rw [len_fix]; decide), len_fix]; rfl
end M

set_option maxRecDepth 100000 in
theorem putFixed8 (n : Nat) (w : World) : Calls Tryd.prog 16 #[.slice none 0 0, .int .u64 (n : Int), .int .i64 8] w fun e w' => ∃ a cap, e = .returned (.slice a 8 cap) ∧ Hid (Lies w' w'.heap.size a (M.fix n 8) cap) ∧ Adds w w' := by
  have h := putFixed_any none [] 0 n 8 w (by decide) (fun _ => rfl) (At.nil _ _)
  rw [show M.clamp 8 = 8 from rfl, List.nil_append] at h
  refine h.mono ?_
  rintro e w' ⟨v, rfl, h1, h2⟩
  obtain ⟨a, cap, rfl, h3⟩ := Own.lies h1
  exact ⟨a, cap, by rw [M.len_fix], h3, h2⟩
/-- What Wrap tells. -/
def PWrap (w : World) (cs : List UInt8) (e : Ending) (w' : World) : Prop := ∃ g, e = .returned (.tuple #[.slice (some ⟨g, 0, none⟩) 256 256, .int .i64 0]) ∧ w.heap.size ≤ g ∧ Sec w' g cs ∧ Adds w w'

set_option maxRecDepth 100000 in
set_option maxHeartbeats 2000000 in
theorem swrap_inv (n : Nat) (k : UInt8) (a : Option Addr) (m cap : Nat) (w : World) (h : n = 0 ∨ k = 0) : Calls Tryd.prog 8 #[.int .u64 (n : Int), .int .u8 (k.toNat : Int), .slice a m cap] w fun e w' => e = .returned (.tuple #[.slice none 0 0, .int .i64 2]) ∧ w' = w := by
  by_cases hn : n = 0
  · subst hn
    go_enter Tryd.func8, Tryd.ntmps8
    go_wp2
    go_ret2
    exact ⟨rfl, rfl⟩
  · obtain rfl := h.resolve_left hn
    have hnb : ((n : Int) == 0) = false := beq_eq_false_iff_ne.2 (by omega)
    go_enter Tryd.func8, Tryd.ntmps8
    go_wp2
    go_ret2
    exact ⟨rfl, rfl⟩
set_option maxRecDepth 100000 in
set_option maxHeartbeats 2000000 in
theorem swrap_big (n : Nat) (k : UInt8) (a : Option Addr) (m cap : Nat) (w : World) (hn : n ≠ 0) (hk : k ≠ 0) (hm : 233 < m) : Calls Tryd.prog 8 #[.int .u64 (n : Int), .int .u8 (k.toNat : Int), .slice a m cap] w fun e w' => e = .returned (.tuple #[.slice none 0 0, .int .i64 3]) ∧ w' = w := by
  have hnb : ((n : Int) == 0) = false := beq_eq_false_iff_ne.2 (by omega)
  have hkb : ((k.toNat : Int) == 0) = false := beq_eq_false_iff_ne.2 (fun e => hk (UInt8.toNat_inj.1 (by simpa using (show k.toNat = 0 by omega))))
  go_enter Tryd.func8, Tryd.ntmps8
  go_wp2
  go_ret2
  exact ⟨rfl, rfl⟩
set_option maxRecDepth 100000 in
set_option maxHeartbeats 4000000 in
theorem swrap_ok (n : Nat) (k : UInt8) (a : Option Addr) (b : List UInt8) (cap : Nat) (w : World) (hn : n ≠ 0) (hk : k ≠ 0) (hb : b.length ≤ 233) (hc : a = none → cap = 0) (hA : At w a b) (hT : Tab w) :
    Calls Tryd.prog 8 #[.int .u64 (n : Int), .int .u8 (k.toNat : Int), .slice a b.length cap] w (PWrap w (M.sector n k b)) := by
  have hnb : ((n : Int) == 0) = false := beq_eq_false_iff_ne.2 (by omega)
  have hkb : ((k.toNat : Int) == 0) = false := beq_eq_false_iff_ne.2 (fun e => hk (UInt8.toNat_inj.1 (by simpa using (show k.toNat = 0 by omega))))
  have hz43 := zero43
  have hs := slice43a w.heap.size
  have HZ := hid (Sec.new w)
  have HA0 := hid (show Adds w (w.alloc (.cells Z256 43)) from (Touch.refl _ w).alloc _)
  have HA := hid (And.intro hb (And.intro hc hA))
  have HT := hid hT
  have HF := hid (M.len_fix 8 n)
  have hb' : ¬ (233 : Int) < (b.length : Int) := by omega
  obtain ⟨l, hl⟩ : ∃ l, l = UInt8.ofNat b.length := ⟨_, rfl⟩
  have hl1 : (b.length : Int) % 256 = (l.toNat : Int) := by rw [hl, M.ofNat_toNat _ (by omega)]; omega
  have hl2 : IntKind.u8.wrap (b.length : Int) = (l.toNat : Int) := by rw [← hl1]; rfl
  have HL := hid hl
  clear hn hk hb hc hA hT hl
  go_enter Tryd.func8, Tryd.ntmps8
  go_upto_region 7 with (first
    | (go_at_call 15; refine (first_any w.heap.size _).mono ?_; rintro e _ ⟨rfl, hw⟩; rw [hw]; clear hw)
    | (go_at_call 16; refine (putFixed8 n _).mono ?_; rintro e w1 ⟨a1, cap1, rfl, L1, hA⟩; have A1 := hid (HA0.out.trans hA); have S0 := hid (HZ.out.adds hA); clear hA)
    | (refine copy_sec rfl _ _ rfl w.heap.size 0 8 8 rfl a1 (M.fix n 8) cap1 8 HF.out rfl (List.replicate 256 0) _ (M.step1 n) S0.out L1.out.at_ L1.out.non (by rw [HF.out]; decide) (by rw [HF.out]; decide) ?_; intro w2 hS hT; have A2 := hid (show Adds w w2 from Adds.one A1.out hT (Nat.le_refl _)); have S1 := hid hS; clear hS hT))
  have c8 := S1.out.cell (M.at8 n)
  have c9 := S1.out.cell (M.at9 n)
  have f8 := S1.out.frozen 8
  have f9 := S1.out.frozen 9
  have HS2 := hid (show Sec ((w2.setCell ⟨w.heap.size, 8, none⟩ (.int .u8 (k.toNat : Int))).setCell ⟨w.heap.size, 9, none⟩ (.int .u8 (l.toNat : Int))) w.heap.size (M.fix n 8 ++ (k :: l :: List.replicate 246 0)) by
    have := (S1.out.set 8 k).set 9 l
    rwa [M.step2] at this)
  have HA2 := hid (show Adds w ((w2.setCell ⟨w.heap.size, 8, none⟩ (.int .u8 (k.toNat : Int))).setCell ⟨w.heap.size, 9, none⟩ (.int .u8 (l.toNat : Int))) from (A2.out.setCell (fun h => absurd h (Nat.lt_irrefl _)) _).setCell (fun h => absurd h (Nat.lt_irrefl _)) _)
  go_upto_region 8 with (fail)
  clear c8 c9 f8 f9 hl1 hl2 hz43
  generalize ((w2.setCell ⟨w.heap.size, 8, none⟩ (.int .u8 (k.toNat : Int))).setCell ⟨w.heap.size, 9, none⟩ (.int .u8 (l.toNat : Int))) = w3 at HS2 HA2 ⊢
  have HH := hid (M.len_head n k b HA.out.1)
  have HQ := hid (show (sealed (M.head n k b)).length = 248 by rw [len_sealed, HH.out])
  have HE3 := hid (show (M.fix n 8 ++ (k :: l :: List.replicate 246 0)).take 10 ++ b ++ (M.fix n 8 ++ (k :: l :: List.replicate 246 0)).drop (10 + b.length) = M.head n k b ++ List.replicate 12 0 by rw [HL.out]; exact M.step3 n k b HA.out.1)
  have HSe := hid (show ∀ w', Sec w' w.heap.size (M.head n k b ++ List.replicate 12 0) → Tab w' → Calls Tryd.prog 19 #[.slice (some ⟨w.heap.size, 0, none⟩) 244 244] w' (fun e w'' => ∃ gs cap, e = .returned (.slice (some ⟨gs, 0, none⟩) 248 cap) ∧ At w'' (some ⟨gs, 0, none⟩) (sealed (M.head n k b)) ∧ Adds w' w'') from fun w' hS hT => by
    have hp := hS.pre 244
    rw [List.take_left' HH.out] at hp
    have h := seal_any (some ⟨w.heap.size, 0, none⟩) (M.head n k b) 244 w' (by rw [HH.out]; decide) (fun e => by cases e) hT hp
    rw [HH.out] at h
    refine h.mono ?_
    rintro e w'' ⟨gs, caps, rfl, _, hown, hA⟩
    rw [HH.out] at hown
    exact ⟨gs, caps, by rw [HH.out], At.own hown, hA⟩)
  have HP8 := hid (show (sealed (M.head n k b) ++ List.replicate 8 0).take 8 = M.fix n 8 by
    unfold sealed; rw [M.head_eq, List.append_assoc, List.append_assoc, List.take_left' HF.out])
  go_wp2_with (first
    | (go_at_call 17; refine (room_any w.heap.size _).mono ?_; rintro e _ ⟨rfl, hw⟩; rw [hw]; clear hw)
    | (go_at_call 18; refine (sealed_any w.heap.size _).mono ?_; rintro e _ ⟨rfl, hw⟩; rw [hw]; clear hw)
    | (go_at_call 20; refine (summed_any w.heap.size _).mono ?_; rintro e _ ⟨rfl, hw⟩; rw [hw]; clear hw)
    | (go_at_call 21; refine (last_any w.heap.size _).mono ?_; rintro e _ ⟨rfl, hw⟩; rw [hw]; clear hw)
    | (go_at_call 15; refine (first_any w.heap.size _).mono ?_; rintro e _ ⟨rfl, hw⟩; rw [hw]; clear hw)
    | (go_at_call 19; refine (HSe.out w4 S4.out (HT.out.adds A4.out)).mono ?_; rintro e w5 ⟨gs, caps, rfl, hL, hA⟩; have L5 := hid hL; have A5 := hid (A4.out.trans hA); have S5 := hid (S4.out.adds hA); clear hA hL)
    | (refine copy_sec rfl _ _ rfl w.heap.size 248 8 8 rfl (some ⟨w.heap.size, 0, none⟩) (M.fix n 8) 8 8 HF.out rfl (sealed (M.head n k b) ++ List.replicate 8 0) _ (M.step5 _ _ HQ.out HF.out) S6.out (by have := S6.out.pre 8; rwa [HP8.out] at this) (fun e => by cases e) (by rw [HF.out]; decide) (by rw [HF.out]; decide) ?_; intro w7 hS hT; have A7 := hid (show Adds w w7 from Adds.one A6.out hT (Nat.le_refl _)); have S7 := hid hS; clear hS hT)
    | (refine copy_sec rfl _ _ rfl w.heap.size 0 248 248 rfl (some ⟨gs, 0, none⟩) (sealed (M.head n k b)) caps 248 HQ.out rfl (M.head n k b ++ List.replicate 12 0) _ (M.step4 _ HH.out) S5.out L5.out (fun e => by cases e) (by rw [HQ.out]; decide) (by rw [HQ.out]; decide) ?_; intro w6 hS hT; have A6 := hid (show Adds w w6 from Adds.one A5.out hT (Nat.le_refl _)); have S6 := hid hS; clear hS hT)
    | (refine copy_sec rfl _ _ rfl w.heap.size 10 234 234 rfl a b cap b.length rfl rfl (M.fix n 8 ++ (k :: l :: List.replicate 246 0)) _ HE3.out HS2.out (HA.out.2.2.adds HA2.out) HA.out.2.1 (by have := HA.out.1; omega) (by have := HA.out.1; omega) ?_; intro w4 hS hT; have A4 := hid (show Adds w w4 from Adds.one HA2.out hT (Nat.le_refl _)); have S4 := hid hS; clear hS hT))
  go_ret2
  exact ⟨w.heap.size, rfl, Nat.le_refl _, S7.out, A7.out⟩
end Go.Proofs.YtahbggdidhmnfaaDoor
