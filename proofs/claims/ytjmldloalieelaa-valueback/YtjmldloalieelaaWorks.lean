/- The chapter's examples. -/
import Derived.Test.YtjmldloalieelaaBoth
namespace Go.Proofs.Ytjmldloalieelaa
open Go.RowKit

theorem cmp_at (u v : M.V) (x : Int) (h : M.cmp u v = x) (w : World) : Calls Try.prog 15 #[VV u, VV v] w (Tells w (.int .i64 x)) := by
  have := cmp_any u v w
  rw [h] at this
  exact this
set_option maxRecDepth 100000 in
set_option maxHeartbeats 2000000 in
theorem works_any (w : World) : Calls Try.prog 14 #[] w (Tells w (.bool true)) := by
  have hs := hst
  have H1 := hid (fun w => cmp_at ⟨3, 0, 9223372036854775808, []⟩ ⟨3, 0, 0, []⟩ 0 (by decide +kernel) w)
  have H2 := hid (fun w => cmp_at ⟨3, 0, 9218868437227405312, []⟩ ⟨3, 0, 9221120237041090561, []⟩ (-1) (by decide +kernel) w)
  go_enter Try.func14, Try.ntmps14
  go_wp2_with (first
    | (go_at_call 40; refine (copysign_any _).mono ?_; rintro e w' ⟨rfl, hw⟩; obtain rfl := hw.symm)
    | (go_at_call 41; refine (inf_any _).mono ?_; rintro e w' ⟨rfl, hw⟩; obtain rfl := hw.symm)
    | (go_at_call 42; refine (nan_any _).mono ?_; rintro e w' ⟨rfl, hw⟩; obtain rfl := hw.symm)
    | (go_at_call 15; have F12 := F12; refine (H2.out _).mono ?_; rintro e w13 ⟨rfl, hA⟩; have F13 := hid (F12.out.trans hA); have b5 := box_here F13.out; have b3 := kept F13.out (kept (alloc_adds w7 _) (box_here T7.out)); have c0 := cellOf b3 0; have c1 := cellOf b3 1; have e0 := cellOf b5 0; clear b3 b5; simp at c0 c1 e0; clear hA)
    | (go_at_call 39; have F11 := F11; refine (floatV_any _ _).mono ?_; rintro e w12 ⟨rfl, hA⟩; have F12 := hid (F11.out.trans hA); clear hA)
    | (go_at_call 39; have F10 := F10; refine (floatV_any _ _).mono ?_; rintro e w11 ⟨rfl, hA⟩; have F11 := hid (F10.out.trans hA); clear hA)
    | (go_at_call 15; have F9 := F9; refine (H1.out _).mono ?_; rintro e w10 ⟨rfl, hA⟩; have F10 := hid (F9.out.trans hA); clear hA)
    | (go_at_call 39; have F8 := F8; refine (floatV_any _ _).mono ?_; rintro e w9 ⟨rfl, hA⟩; have F9 := hid (F8.out.trans hA); clear hA)
    | (go_at_call 39; refine (floatV_any _ _).mono ?_; rintro e w8 ⟨rfl, hA⟩; have F8 := hid hA; clear hA)
    | (go_at_call 12; have A6 := A6; refine (both1 _).mono ?_; rintro e w7 ⟨rfl, hA⟩; have T7 := hid (T6.out.trans hA); have U7 := hid (U6.out.trans hA); have A7 := hid (A6.out.trans hA); have q1 := cellOf (kept (alloc_adds w7 (.cells #[.int .i64 0, .int .i64 0, .float .f64 0, .string ⟨#[]⟩] 24)) (box_here U7.out)) 1; simp at q1; clear hA)
    | (go_at_call 31; have A5 := A5; refine (truth0 _).mono ?_; rintro e w6 ⟨rfl, hA⟩; have T6 := hid hA; have U6 := hid ((T5.out.alloc _).trans hA); have A6 := hid ((A5.out.alloc _).trans hA); clear hA)
    | (go_at_call 12; refine (both0 _).mono ?_; rintro e w5 ⟨rfl, hA⟩; have T5 := hid (T4.out.trans hA); have A5 := hid (A4.out.trans hA); clear hA)
    | (go_at_call 31; refine (truth0 _).mono ?_; rintro e w4 ⟨rfl, hA⟩; have T4 := hid hA; have A4 := hid ((A3.out.alloc _).trans hA); clear hA)
    | (go_at_call 7; refine (calc_add _).mono ?_; rintro e w3 ⟨rfl, hA⟩; have A3 := hid (A2.out.trans hA); clear hA)
    | (go_at_call 24; have A1 := A1; refine (number_any _ _).mono ?_; rintro e w2 ⟨rfl, hA⟩; have A2 := hid (A1.out.trans hA); clear hA)
    | (go_at_call 24; refine (number_any _ _).mono ?_; rintro e w1 ⟨rfl, hA⟩; have A1 := hid hA; clear hA))
  go_ret
  exact ⟨rfl, (A7.out.alloc _).trans F13.out⟩
end Go.Proofs.Ytjmldloalieelaa
