/- A rotation. -/
import Derived.Test.YtkkmbpcmkhikkaaSwr
namespace Go.Proofs.Ytkkmbpcmkhikkaa
open Go.RowKit

theorem swr_at (f : Value) (g cap a b n L : Nat) (l : List Hd) (w : World) (za zb zn : Int) (ha : za = (a : Int)) (hb' : zb = (b : Int)) (hn : zn = (n : Int)) (hL : l.length = L) (hab : a + n ≤ b) (hb : b + n ≤ L) (hl : L ≤ 1000000) (hD : Dat w g l) :
    Calls Try.prog 78 #[.slice (some ⟨g, 0, none⟩) L cap, .int .i64 za, .int .i64 zb, .int .i64 zn, f] w (PSwr w g a b n l) := by
  subst hL ha hb' hn
  exact swr_any f g cap a b n l w hab hb hl hD
/-- What a rotation leaves. -/
def PRot (w : World) (g a m b : Nat) (l : List Hd) (e : Ending) (w' : World) : Prop := e = .returned (.tuple #[]) ∧ Hid (∃ r, M.Rot a m b l r ∧ r.Perm l ∧ r.length = l.length ∧ Dat w' g r ∧ Only g w w')
set_option maxRecDepth 100000 in
set_option maxHeartbeats 600000 in
theorem rot_any (f : Value) (g cap a m b L : Nat) (l : List Hd) (w : World) (hL : l.length = L) (ham : a < m) (hmb : m < b) (hb : b ≤ L) (hl : L ≤ 1000000) (hD : Dat w g l) :
    Calls Try.prog 77 #[.slice (some ⟨g, 0, none⟩) L cap, .int .i64 (a : Int), .int .i64 (m : Int), .int .i64 (b : Int), f] w (PRot w g a m b l) := by
  have HS := hid (And.intro (M.Rt.start (l := l) ham hmb) (And.intro hD (Touch.refl (fun k => k = g) w)))
  obtain ⟨i0, hi0⟩ : ∃ i, i = m - a := ⟨_, rfl⟩
  obtain ⟨j0, hj0⟩ : ∃ j, j = b - m := ⟨_, rfl⟩
  rw [← hi0, ← hj0] at HS
  have HB := hid (And.intro hi0 hj0)
  clear hD hi0 hj0
  go_enter Try.func77, Try.ntmps77
  go_wp2_with fail
  go_loopw [10, 11] (fun iv jv wr => ∃ (i j : Nat) (n : List Hd), iv = .int .i64 (i : Int) ∧ jv = .int .i64 (j : Int) ∧ n.length = L ∧ Hid (M.Rt a m b l i j n ∧ Dat wr g n ∧ Only g w wr)) (fun iv jv _ => (intOf iv).toNat + (intOf jv).toNat)
  case atStart => exact ⟨i0, j0, l, by have := HB.out; go_num, by have := HB.out; go_num, hL, HS.out⟩
  case round =>
    obtain ⟨i, j, n, rfl, rfl, hn, HI⟩ := hrel
    clear HS HB
    obtain ⟨mi, hmi⟩ : ∃ k, k = m - i := ⟨_, rfl⟩
    have HF := hid (show 0 < i ∧ 0 < j ∧ a + i ≤ m ∧ m + j ≤ b ∧ mi = m - i from ⟨HI.out.1.hi, HI.out.1.hj, HI.out.1.ia, HI.out.1.jb, hmi⟩)
    obtain ⟨hp1, hp2, hp3, hp4, _⟩ := HF.out
    clear hmi
    rcases Nat.lt_trichotomy i j with hij | hij | hij
    · have hz1 : ((i : Int) != (j : Int)) = true := by simp; omega
      have hz2 : ¬ (j : Int) < (i : Int) := by omega
      obtain ⟨mj, hmj⟩ : ∃ k, k = m + j - i := ⟨_, rfl⟩
      obtain ⟨ji, hji⟩ : ∃ k, k = j - i := ⟨_, rfl⟩
      have HG := hid (And.intro hmj hji)
      clear hmj hji
      go_wp2_with (first | (go_at_call 78; refine (swr_at f g cap mi mj i L n _ _ _ _ (by have := HF.out; have := HG.out; first | rfl | omega | (simp only [wrap64]; omega)) (by have := HF.out; have := HG.out; first | rfl | omega | (simp only [wrap64]; omega)) (by first | rfl | omega | (simp only [wrap64]; omega)) hn (by have := HF.out; have := HG.out; omega) (by have := HF.out; have := HG.out; omega) hl HI.out.2.1).mono ?_; rintro e w1 ⟨rfl, HR⟩))
      go_roundw
      case rel =>
        obtain ⟨r, h1, h2, h3⟩ := HR.out
        rw [HF.out.2.2.2.2, HG.out.1] at h1
        have h4 := HI.out.1.right hij h1
        rw [← HG.out.2] at h4
        exact ⟨i, ji, r, by first | rfl | go_num, by have := HG.out; have := HF.out; first | rfl | go_num | (congr 1; omega), h1.len.trans hn, h4, h2, HI.out.2.2.trans h3⟩
      case measure => have := HF.out; have := HG.out; simp [intOf]; omega
    · subst hij
      have hz1 : ((i : Int) != (i : Int)) = false := by simp
      go_wp2_with (first | (go_at_call 78; refine (swr_at f g cap mi m i L n _ _ _ _ (by have := HF.out; first | rfl | omega | (simp only [wrap64]; omega)) (by first | rfl | omega | (simp only [wrap64]; omega)) (by first | rfl | omega | (simp only [wrap64]; omega)) hn (by have := HF.out; omega) (by have := HF.out; omega) hl HI.out.2.1).mono ?_; rintro e w1 ⟨rfl, HR⟩))
      go_end0
      obtain ⟨r, h1, h2, h3⟩ := HR.out
      rw [HF.out.2.2.2.2] at h1
      obtain ⟨h4, h5, h6⟩ := HI.out.1.last h1
      exact ⟨rfl, r, h4, h5, h6, h2, HI.out.2.2.trans h3⟩
    · have hz1 : ((i : Int) != (j : Int)) = true := by simp; omega
      have hz2 : (j : Int) < (i : Int) := by omega
      obtain ⟨ji, hji⟩ : ∃ k, k = i - j := ⟨_, rfl⟩
      have HG := hid hji
      clear hji
      go_wp2_with (first | (go_at_call 78; refine (swr_at f g cap mi m j L n _ _ _ _ (by have := HF.out; first | rfl | omega | (simp only [wrap64]; omega)) (by first | rfl | omega | (simp only [wrap64]; omega)) (by first | rfl | omega | (simp only [wrap64]; omega)) hn (by have := HF.out; omega) (by have := HF.out; omega) hl HI.out.2.1).mono ?_; rintro e w1 ⟨rfl, HR⟩))
      go_roundw
      case rel =>
        obtain ⟨r, h1, h2, h3⟩ := HR.out
        rw [HF.out.2.2.2.2] at h1
        have h4 := HI.out.1.left hij h1
        rw [← HG.out] at h4
        exact ⟨ji, j, r, by have := HG.out; have := HF.out; first | rfl | go_num | (congr 1; omega), by first | rfl | go_num, h1.len.trans hn, h4, h2, HI.out.2.2.trans h3⟩
      case measure => have := HF.out; have := HG.out; simp [intOf]; omega
end Go.Proofs.Ytkkmbpcmkhikkaa
