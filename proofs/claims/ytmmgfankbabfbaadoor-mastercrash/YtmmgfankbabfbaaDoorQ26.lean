/- A slot's body. -/
import Derived.Test.YtmmgfankbabfbaaDoorQ17
namespace Go.Proofs.YtmmgfankbabfbaaDoor
open Go.RowKit
set_option maxRecDepth 100000 in
theorem putUint_at (a : Option Addr) (bs : List UInt8) (m cap n : Nat) (hm : bs.length = m) (w : World) (hl : m ≤ 1000000) (hn : n < 18446744073709551616) (hcap : a = none → cap = 0) (hA : At w a bs) : Calls Tryd.prog 65 #[.slice a m cap, .int .u64 (n : Int)] w (POwn w (bs ++ M.enc n)) := by
  subst hm
  exact putUint_any a bs cap n w hl hn hcap hA
set_option maxRecDepth 100000 in
theorem encs_take {ns : List Nat} {k n : Nat} (h : ns[k]? = some n) : U.encs (ns.take (k + 1)) = U.encs (ns.take k) ++ M.enc n := by
  rw [List.take_add_one, h, Option.toList_some, U.encs_app, U.encs_one]
set_option maxRecDepth 100000 in
set_option maxHeartbeats 1000000 in
theorem mput_any {Q : Nat → Prop} (a : Option Addr) (cap m : Nat) (ns : List Nat) (hm : ns.length = m) (w : World) (hF : U.Fit ns) (hA : NQ w Q ⟨a, cap, ns⟩) : Calls Tryd.prog 38 #[.slice a m cap] w (POwn w (U.pbytes ns)) := by
  have hl : m ≤ 20 := by rw [← hm]; exact hF.len
  have H0 := hid (show Calls Tryd.prog 65 #[.slice none 0 0, .int .u64 (m : Int)] w (POwn w (M.enc m)) from putUint_any none [] 0 m w (by decide) (by omega) (fun _ => rfl) (At.nil _ _))
  have HG := hid (fun k (hk : k < m) => hA.get (k := k) (show k < ns.length by omega))
  have HF := hid hF
  have HM := hid hm
  have HP := hid (show ∀ k, (M.enc m ++ U.encs (ns.take k)).length ≤ 300 by
    intro k
    have h1 := U.encs_len (ns.take k) (fun n hn => hF.lt n (List.mem_of_mem_take hn))
    have h2 := M.len_enc10 (n := m) (by omega)
    have h3 : (ns.take k).length ≤ 20 := by rw [List.length_take]; omega
    rw [List.length_append]; omega)
  clear hA hF hm
  dsimp only at HG
  generalize a = ga at *
  go_enter Tryd.func38, Tryd.ntmps38
  go_wp2_with (first
    | (go_at_call 65; refine H0.out.mono ?_; rintro e w1 ⟨v1, rfl, o1, A1⟩; have H1 := hid (And.intro o1 A1); clear o1 A1))
  go_loopw [3, 12] (fun v i wr => ∃ k : Nat, k ≤ m ∧ i = .int .i64 (k : Int) ∧ Hid (wr.ownsRow w.heap.size 5 1 v (M.enc m ++ U.encs (ns.take k)).length (S (M.enc m ++ U.encs (ns.take k))) ∧ Adds w wr)) (fun _ i _ => m - (intOf i).toNat)
  case atStart => exact ⟨0, Nat.zero_le _, rfl, by simpa [U.encs] using H1.out.1, H1.out.2⟩
  case round =>
    obtain ⟨k, hk, rfl, HI⟩ := hrel
    by_cases hlt : k < m
    · obtain ⟨b, o, n, rfl, hn, hc⟩ := HG.out k hlt
      have hc' : wr.cell? ⟨b, o + k, none⟩ = some (.int .u64 (n : Int)) := below_adds HI.out.2 hc
      have hnl : n < 18446744073709551616 := HF.out.lt n (List.mem_of_getElem? hn)
      obtain ⟨va, vc, hv, _, hvn, hvq⟩ := own_cq HI.out.1
      obtain ⟨L, hL⟩ : ∃ L, L = (M.enc m ++ U.encs (ns.take k)).length := ⟨_, rfl⟩
      rw [← hL] at hv
      subst hv
      have HX := hid (putUint_at va (M.enc m ++ U.encs (ns.take k)) L vc n hL.symm wr (by have := HP.out k; omega) hnl hvn hvq.at)
      have HN := hid hn
      clear hc hn hvn hvq HG hnl hL
      go_wp2_with (first
        | (go_at_call 65; refine HX.out.mono ?_; rintro e w2 ⟨v2, rfl, o2, A2⟩; have H2 := hid (And.intro o2 A2); clear o2 A2))
      go_roundw
      case rel =>
        have hs := HI.out.2.size
        refine ⟨k + 1, by omega, by go_num, ?_, HI.out.2.trans H2.out.2⟩
        have e1 : M.enc m ++ U.encs (ns.take (k + 1)) = (M.enc m ++ U.encs (ns.take k)) ++ M.enc n := by rw [encs_take HN.out, List.append_assoc]
        rw [e1]
        exact row_base H2.out.1 (fun j hj => Nat.le_trans hs (row_low H2.out.1 hj).1)
      case measure => simp [intOf]; omega
    · obtain rfl : k = m := by omega
      go_wp2_with fail
      go_ret
      refine ⟨_, rfl, ?_, HI.out.2⟩
      have e1 : U.pbytes ns = M.enc k ++ U.encs (ns.take k) := by rw [U.pbytes, HM.out, List.take_of_length_le (by rw [HM.out]; exact Nat.le_refl _)]
      rw [e1]
      exact HI.out.1
end Go.Proofs.YtmmgfankbabfbaaDoor
