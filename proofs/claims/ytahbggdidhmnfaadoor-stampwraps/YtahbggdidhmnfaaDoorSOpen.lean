/- Open, of whatever bytes. -/
import Derived.Test.YtahbggdidhmnfaaDoorCopy
namespace Go.Proofs.YtahbggdidhmnfaaDoor
open Go.RowKit

set_option maxRecDepth 100000 in
theorem M.oErr_good {bs : List UInt8} (h : M.oErr bs = 0) : bs.length = 256 ∧ M.lenOf bs ≤ 233 := by
  unfold M.oErr at h
  split at h
  · cases h
  · rename_i h1
    split at h
    · cases h
    · split at h
      · cases h
      · split at h
        · cases h
        · split at h
          · cases h
          · rename_i h5
            exact ⟨Classical.not_not.1 h1, Nat.not_lt.1 (fun c => h5 (.inr (.inl c)))⟩

set_option maxRecDepth 100000 in
set_option maxHeartbeats 2000000 in
theorem sopen_good (a : Option Addr) (bs : List UInt8) (cap : Nat) (w : World) (hl : bs.length = 256) (hc : a = none → cap = 0) (hA : At w a bs) (hT : Tab w) (hz : M.oErr bs = 0) (hn : M.lenOf bs ≤ 233) (o : Nat) (ho : (if M.lenOf bs = 0 then 0 else 10) = o) :
    Calls Tryd.prog 11 #[.slice a 256 cap] w fun e w' => e = .returned (.tuple #[.int .u64 (M.unfix (bs.take 8) : Int), .int .u8 ((M.kindOf bs).toNat : Int), .slice (some ⟨w.heap.size, o, none⟩) (M.lenOf bs) (M.lenOf bs), .int .i64 0]) ∧ Sec w' w.heap.size bs ∧ Adds w w' := by
  have hz43 := zero43
  have hs := slice43a w.heap.size
  have HZ := hid (Sec.new w)
  have HA0 := hid (show Adds w (w.alloc (.cells Z256 43)) from (Touch.refl _ w).alloc _)
  have HA := hid (And.intro hl (And.intro hc (hA.adds HA0.out)))
  have HE := hid (show (List.replicate 256 (0 : UInt8)).take 0 ++ bs ++ (List.replicate 256 0).drop (0 + bs.length) = bs by
    rw [List.take_zero, List.nil_append, List.drop_eq_nil_of_le (by rw [List.length_replicate]; omega), List.append_nil])
  have HT := hid hT
  have HR := hid hz
  have HB := hid (show ∀ w', Sec w' w.heap.size bs → Calls Tryd.prog 26 #[Ptr w.heap.size] w' (Adding (.slice (some ⟨w.heap.size, o, none⟩) (M.lenOf bs) (M.lenOf bs)) w') from fun w' h => by rw [← ho]; exact body_any w.heap.size bs w' h hn)
  have H8 := hid (fun w' (h : Sec w' w.heap.size bs) => h.cell (show bs[8]? = some (M.kindOf bs) from get_of (by omega)))
  clear hl hc hA hT hz hn ho
  go_enter Tryd.func11, Tryd.ntmps11
  go_wp2_with (first
    | (refine copy_sec rfl _ _ rfl w.heap.size 0 256 256 rfl a bs cap 256 HA.out.1 rfl (List.replicate 256 0) bs HE.out HZ.out HA.out.2.2 HA.out.2.1 (by rw [HA.out.1]; decide) (by rw [HA.out.1]; decide) ?_; intro w1 hS hT; have A1 := hid (show Adds w w1 from Adds.one HA0.out hT (Nat.le_refl _)); have S1 := hid hS; clear hS hT)
    | (go_at_call 24; refine (refusal_any w.heap.size bs w1 S1.out (HT.out.adds A1.out)).mono ?_; rintro e w2 ⟨rfl, hA⟩; rw [HR.out]; have A2 := hid (A1.out.trans hA); have S2 := hid (S1.out.adds hA); clear hA))
  have D2 := hid (show Adds w2 w2.drew from (Touch.refl _ w2).drew)
  go_region_held3 (fun w' => w'.cell? ⟨w.heap.size, 8, none⟩ = some (.int .u8 ((M.kindOf bs).toNat : Int))) (first | exact H8.out _ (S2.out.adds D2.out) | exact H8.out _ S4.out | exact H8.out _ S3.out) (first
    | (go_at_call 25; refine (stamp_any w.heap.size bs _ (S2.out.adds D2.out)).mono ?_; rintro e w3 ⟨rfl, hA⟩; have A3 := hid (D2.out.trans hA); have S3 := hid (S2.out.adds (D2.out.trans hA)); clear hA)
    | (go_at_call 26; refine (HB.out w3 S3.out).mono ?_; rintro e w4 ⟨rfl, hA⟩; have A4 := hid hA; have S4 := hid (S3.out.adds hA); clear hA))
  go_wp2
  (try simp only [Exit.inBlock, Exit.then]); refine bodyPost_ret (res4 rfl _ _ _) rfl ?_
  exact ⟨rfl, S4.out, A2.out.trans (A3.out.trans A4.out)⟩

set_option maxRecDepth 100000 in
theorem sopen_any (a : Option Addr) (bs : List UInt8) (cap : Nat) (w : World) (hc : a = none → cap = 0) (hA : At w a bs) (hT : Tab w) : Calls Tryd.prog 11 #[.slice a bs.length cap] w (PSOpen w bs) := by
  by_cases hl : bs.length = 256
  · by_cases h0 : M.oErr bs = 0
    · have hn := (M.oErr_good h0).2
      rw [hl]
      refine (sopen_good a bs cap w hl hc hA hT h0 hn _ rfl).mono ?_
      rintro e w' ⟨rfl, hS, hA'⟩
      have hb : M.oBody bs = (bs.drop 10).take (M.lenOf bs) := by rw [M.oBody, if_pos h0]
      have hlb : (M.oBody bs).length = M.lenOf bs := by rw [hb, List.length_take, List.length_drop]; omega
      refine ⟨_, M.lenOf bs, by rw [M.oMark, if_pos h0, M.oKind, if_pos h0, h0, hlb]; rfl, ?_, hA'⟩
      by_cases hz : M.lenOf bs = 0
      · exact .inl (List.eq_nil_of_length_eq_zero (by omega))
      · refine .inr ⟨w.heap.size, bs, by rw [if_neg hz], Nat.le_refl _, hS, by rw [hlb]; exact hb.symm⟩
    · rw [hl]
      refine (sopen_bad a bs cap w hl hc hA hT _ rfl h0).mono ?_
      rintro e w' ⟨rfl, hA'⟩
      obtain ⟨h1, h2, h3⟩ := M.refused h0
      exact ⟨none, 0, by rw [h1, h2, h3]; rfl, .inl h3, hA'⟩
  · refine (sopen_long a bs.length cap w hl).mono ?_
    rintro e w' ⟨rfl, rfl⟩
    have h21 : M.oErr bs = 21 := by rw [M.oErr, if_pos hl]
    obtain ⟨h1, h2, h3⟩ := M.refused (b := bs) (by rw [h21]; decide)
    exact ⟨none, 0, by rw [h1, h2, h3, h21]; rfl, .inl h3, Touch.refl _ _⟩
end Go.Proofs.YtahbggdidhmnfaaDoor
