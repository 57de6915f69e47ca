/- Texts put together: GAa, GAb. -/
import Derived.Test.YtjlennpoaefllaaGreatDoorQ39
import Derived.Test.YtjlennpoaefllaaGreatDoorQ40
import Derived.BigQuiet
/- The acts of a pair of spaces. -/
namespace Go.Proofs.YtjlennpoaefllaaGreatDoor
open Go.RowKit
/-- An act's box. -/
abbrev AB12 (k no : Int) (fa : Option Addr) (fn fc : Nat) : Obj := .cells #[.int .i64 k, .int .i64 no, .slice fa fn fc] 45 (0, 0)
/-- Behind an act both tell the same, and the pair is alike. -/
def PA12 (w0 : World) (sp p d q r c n k : Nat) (z : Int) (e : Ending) (w' : World) : Prop := e = .returned (.bool true) ∧ Hid (∃ s' D', PwE w0 w' [(sp, SBox p)] p d q r s' s' D' D' (n + 20) (k + 3) ∧ Jz c s' ∧ D'.size = z)
set_option maxRecDepth 100000 in
theorem eq_space_none (w : World) : (binOp .eql 37 (.pointer none) (.pointer none)).run Tryz.prog w = .ok (.bool true) w := by kernel_rfl
set_option maxRecDepth 100000 in
theorem eq_space_some (l : Nat) (w : World) : (binOp .eql 37 (.pointer (some ⟨l, 0, none⟩)) (.pointer none)).run Tryz.prog w = .ok (.bool false) w := by kernel_rfl
set_option maxRecDepth 100000 in
theorem tk_code (s : F.Po) (D : dSt) : (G.takenG D 1 0 s []).2.1 = G.mapE s D 0 := by
  by_cases hz : G.mapE s D 0 = 0
  · rw [tk_next (r := 0) (k := 0) hz, hz]; rfl
  · rw [tk_bad (r := 0) (k := 0) hz]
set_option maxRecDepth 100000 in
set_option maxHeartbeats 4000000 in
theorem act12_alloc {w0 w : World} {sp p d q r n k c : Nat} {s : F.Po} {D : dSt} (h : PwE w0 w [(sp, SBox p)] p d q r s s D D n k) (hj : Jz c s) (hc1 : 1 ≤ c) (hc2 : c ≤ 1920) (hn : n + 40 ≤ 1000000) (hk9 : k ≤ 800) (no : Int) (fa : Option Addr) (fn fc : Nat) :
    Calls Tryz.prog 16 #[.agg #[.int .i64 0, .int .i64 no, .slice fa fn fc], Ptr d, Ptr r, Ptr sp, Ptr q] w (PA12 w0 sp p d q r c n k D.size) := by
  obtain ⟨ab, hab⟩ : ∃ ab, ab = w.heap.size := ⟨_, rfl⟩
  obtain ⟨wd, hwd⟩ : ∃ wd, wd = w.alloc (AB12 0 no fa fn fc) := ⟨_, rfl⟩
  have HP := hid (show PwE w0 wd [(ab, AB12 0 no fa fn fc), (sp, SBox p)] p d q r s s D D n k by rw [hwd, hab]; exact h.more ((Touch.refl _ w).alloc _) w.heap.size _ (heap_alloc_new w _) (Nat.le_refl _))
  have HJ := hid hj
  have HC := hid (And.intro (And.intro hc1 hc2) (And.intro hn hk9))
  have HG := hid h.facts
  have HAx := hid (HP.out.other (ab, AB12 0 no fa fn fc) List.mem_cons_self)
  have HSx := hid (HP.out.other (sp, SBox p) (List.mem_cons_of_mem _ List.mem_cons_self))
  have hm1 := (hj.maps hc1 hc2).2
  have HSpl := hid (show Calls Tryz.prog 15 #[Ptr sp] wd (Tells (Ptr p) wd) from spool_any HSx.out)
  have c0 : wd.cell? ⟨ab, 0, none⟩ = some (.int .i64 0) := cellOf HAx.out 0
  have HA := pw_alloc HP.out (List.mem_cons_of_mem _ List.mem_cons_self) (by omega) (by omega)
  have HR := fun (w2 : World) (s1 : F.Po) (h2 : PwE w0 w2 [(ab, AB12 0 no fa fn fc), (sp, SBox p)] p d q r s1 s D D (n + 10) k) => rallocZ h2 HG.out.2.2.1 (by omega) HG.out.2.1 HG.out.1 hj.mo hj.nl hj.ct hc1 hc2
  have HJ2 := hj.alloc hc1 hc2 D
  obtain ⟨R, hR⟩ : ∃ R, R = G.allocG D (G.maps (G.cnt s)) 0 s := ⟨_, rfl⟩
  rw [← hR] at HA HR HJ2
  clear hR
  obtain ⟨x, z, S2⟩ := R
  obtain ⟨zi, hzi⟩ : ∃ zi : Int, zi = (z : Int) := ⟨_, rfl⟩
  have HA := hid (show Calls Tryz.prog 31 #[Ptr sp] wd (fun e w' => e = .returned (.tuple #[.int .i64 x, .int .i64 zi]) ∧ Hid (PwE w0 w' [(ab, AB12 0 no fa fn fc), (sp, SBox p)] p d q r S2 s D D (n + 10) k)) by rw [hzi]; exact HA)
  have HR := hid (fun (w2 : World) (h2 : PwE w0 w2 [(ab, AB12 0 no fa fn fc), (sp, SBox p)] p d q r S2 s D D (n + 10) k) => show Calls Tryz.prog 42 #[Ptr q] w2 (fun e w' => e = .returned (.tuple #[.int .i64 x, .int .i64 zi]) ∧ Hid (PwE w0 w' [(ab, AB12 0 no fa fn fc), (sp, SBox p)] p d q r S2 S2 D D (n + 10) k)) by rw [hzi]; exact HR w2 S2 h2)
  have HJ2 := hid HJ2
  unfold Ptr at *
  clear h hj hn hk9 hm1 hc1 hc2 hzi
  go_enter Tryz.func16, Tryz.ntmps16
  go_upto_region 1 with fail
  rw [← hab, ← hwd]
  clear hab hwd
  go_wp2_with (first
    | (go_at_call 15; refine HSpl.out.mono ?_; rintro e w1 ⟨rfl, hw⟩; rw [hw]; clear hw)
    | (go_at_call 31; refine (HA.out).mono ?_; rintro e w2 ⟨rfl, H2⟩)
    | (go_at_call 42; refine (HR.out w2 H2.out).mono ?_; rintro e w3 ⟨rfl, H3⟩))
  go_ret
  exact ⟨rfl, _, _, (H3.out.fewer (fun x hx => List.mem_cons_of_mem _ hx)).later (by omega) (by omega), HJ2.out, rfl⟩
set_option maxRecDepth 100000 in
set_option maxHeartbeats 4000000 in
theorem act12_accept {w0 w : World} {sp p d q r n k c : Nat} {s : F.Po} {D : dSt} (h : PwE w0 w [(sp, SBox p)] p d q r s s D D n k) (hj : Jz c s) (hc1 : 1 ≤ c) (hc2 : c ≤ 1920) (hn : n + 40 ≤ 1000000) (hk9 : k ≤ 800) (no : Int) (fa : Option Addr) (fn fc : Nat) :
    Calls Tryz.prog 16 #[.agg #[.int .i64 2, .int .i64 no, .slice fa fn fc], Ptr d, Ptr r, Ptr sp, Ptr q] w (PA12 w0 sp p d q r c n k D.size) := by
  obtain ⟨ab, hab⟩ : ∃ ab, ab = w.heap.size := ⟨_, rfl⟩
  obtain ⟨wd, hwd⟩ : ∃ wd, wd = w.alloc (AB12 2 no fa fn fc) := ⟨_, rfl⟩
  have HP := hid (show PwE w0 wd [(ab, AB12 2 no fa fn fc), (sp, SBox p)] p d q r s s D D n k by rw [hwd, hab]; exact h.more ((Touch.refl _ w).alloc _) w.heap.size _ (heap_alloc_new w _) (Nat.le_refl _))
  have HJ := hid hj
  have HC := hid (And.intro (And.intro hc1 hc2) (And.intro hn hk9))
  have HG := hid h.facts
  have HAx := hid (HP.out.other (ab, AB12 2 no fa fn fc) List.mem_cons_self)
  have HSx := hid (HP.out.other (sp, SBox p) (List.mem_cons_of_mem _ List.mem_cons_self))
  have hm1 := (hj.maps hc1 hc2).2
  have HSpl := hid (show Calls Tryz.prog 15 #[Ptr sp] wd (Tells (Ptr p) wd) from spool_any HSx.out)
  have c0 : wd.cell? ⟨ab, 0, none⟩ = some (.int .i64 2) := cellOf HAx.out 0
  obtain ⟨zz, hzz⟩ : ∃ zz : Int, zz = ((F.which s F.isFresh).length : Int) := ⟨_, rfl⟩
  have hl9 : s.L.length ≤ 10000 := by have := hj.len HG.out.1; omega
  have HA := hid (show Calls Tryz.prog 44 #[Ptr p] wd (PPw w0 [(ab, AB12 2 no fa fn fc), (sp, SBox p)] p d q r (F.accS s) s D D n k (.int .i64 zz)) by rw [hzz]; exact pw_accept HP.out)
  have HR := hid (fun (w2 : World) (h2 : PwE w0 w2 [(ab, AB12 2 no fa fn fc), (sp, SBox p)] p d q r (F.accS s) s D D n k) => show Calls Tryz.prog 45 #[Ptr q] w2 (PPw w0 [(ab, AB12 2 no fa fn fc), (sp, SBox p)] p d q r (F.accS s) (F.accS s) D D n k (.int .i64 zz)) by rw [hzz]; exact pq_accept h2 hl9)
  have HJ2 := hid hj.acc
  unfold Ptr at *
  clear h hj hn hk9 hm1 hc1 hc2 hzz hl9
  go_enter Tryz.func16, Tryz.ntmps16
  go_upto_region 1 with fail
  rw [← hab, ← hwd]
  clear hab hwd
  go_wp2_with (first
    | (go_at_call 15; refine HSpl.out.mono ?_; rintro e w1 ⟨rfl, hw⟩; rw [hw]; clear hw)
    | (go_at_call 44; refine (HA.out).mono ?_; rintro e w2 ⟨rfl, H2⟩)
    | (go_at_call 45; refine (HR.out w2 H2.out).mono ?_; rintro e w3 ⟨rfl, H3⟩))
  go_ret
  exact ⟨rfl, _, _, (H3.out.fewer (fun x hx => List.mem_cons_of_mem _ hx)).later (by omega) (by omega), HJ2.out, rfl⟩
set_option maxRecDepth 100000 in
set_option maxHeartbeats 4000000 in
theorem act12_drop {w0 w : World} {sp p d q r n k c : Nat} {s : F.Po} {D : dSt} (h : PwE w0 w [(sp, SBox p)] p d q r s s D D n k) (hj : Jz c s) (hc1 : 1 ≤ c) (hc2 : c ≤ 1920) (hn : n + 40 ≤ 1000000) (hk9 : k ≤ 800) (no : Int) (fa : Option Addr) (fn fc : Nat) :
    Calls Tryz.prog 16 #[.agg #[.int .i64 3, .int .i64 no, .slice fa fn fc], Ptr d, Ptr r, Ptr sp, Ptr q] w (PA12 w0 sp p d q r c n k D.size) := by
  obtain ⟨ab, hab⟩ : ∃ ab, ab = w.heap.size := ⟨_, rfl⟩
  obtain ⟨wd, hwd⟩ : ∃ wd, wd = w.alloc (AB12 3 no fa fn fc) := ⟨_, rfl⟩
  have HP := hid (show PwE w0 wd [(ab, AB12 3 no fa fn fc), (sp, SBox p)] p d q r s s D D n k by rw [hwd, hab]; exact h.more ((Touch.refl _ w).alloc _) w.heap.size _ (heap_alloc_new w _) (Nat.le_refl _))
  have HJ := hid hj
  have HC := hid (And.intro (And.intro hc1 hc2) (And.intro hn hk9))
  have HG := hid h.facts
  have HAx := hid (HP.out.other (ab, AB12 3 no fa fn fc) List.mem_cons_self)
  have HSx := hid (HP.out.other (sp, SBox p) (List.mem_cons_of_mem _ List.mem_cons_self))
  have hm1 := (hj.maps hc1 hc2).2
  have HSpl := hid (show Calls Tryz.prog 15 #[Ptr sp] wd (Tells (Ptr p) wd) from spool_any HSx.out)
  have c0 : wd.cell? ⟨ab, 0, none⟩ = some (.int .i64 3) := cellOf HAx.out 0
  obtain ⟨zz, hzz⟩ : ∃ zz : Int, zz = ((F.which s F.isFresh).length : Int) := ⟨_, rfl⟩
  have hl9 : s.L.length ≤ 10000 := by have := hj.len HG.out.1; omega
  have HA := hid (show Calls Tryz.prog 46 #[Ptr p] wd (PPw w0 [(ab, AB12 3 no fa fn fc), (sp, SBox p)] p d q r (F.dropS s) s D D n k (.int .i64 zz)) by rw [hzz]; exact pw_drop HP.out)
  have HR := hid (fun (w2 : World) (h2 : PwE w0 w2 [(ab, AB12 3 no fa fn fc), (sp, SBox p)] p d q r (F.dropS s) s D D n k) => show Calls Tryz.prog 47 #[Ptr q] w2 (PPw w0 [(ab, AB12 3 no fa fn fc), (sp, SBox p)] p d q r (F.dropS s) (F.dropS s) D D n k (.int .i64 zz)) by rw [hzz]; exact pq_drop h2 hl9)
  have HJ2 := hid hj.drop
  unfold Ptr at *
  clear h hj hn hk9 hm1 hc1 hc2 hzz hl9
  go_enter Tryz.func16, Tryz.ntmps16
  go_upto_region 1 with fail
  rw [← hab, ← hwd]
  clear hab hwd
  go_wp2_with (first
    | (go_at_call 15; refine HSpl.out.mono ?_; rintro e w1 ⟨rfl, hw⟩; rw [hw]; clear hw)
    | (go_at_call 46; refine (HA.out).mono ?_; rintro e w2 ⟨rfl, H2⟩)
    | (go_at_call 47; refine (HR.out w2 H2.out).mono ?_; rintro e w3 ⟨rfl, H3⟩))
  go_ret
  exact ⟨rfl, _, _, (H3.out.fewer (fun x hx => List.mem_cons_of_mem _ hx)).later (by omega) (by omega), HJ2.out, rfl⟩
set_option maxRecDepth 100000 in
set_option maxHeartbeats 4000000 in
theorem act12_flush {w0 w : World} {sp p d q r n k c : Nat} {s : F.Po} {D : dSt} (h : PwE w0 w [(sp, SBox p)] p d q r s s D D n k) (hj : Jz c s) (hc1 : 1 ≤ c) (hc2 : c ≤ 1920) (hn : n + 40 ≤ 1000000) (hk9 : k ≤ 800) (no : Int) (fa : Option Addr) (fn fc : Nat) :
    Calls Tryz.prog 16 #[.agg #[.int .i64 4, .int .i64 no, .slice fa fn fc], Ptr d, Ptr r, Ptr sp, Ptr q] w (PA12 w0 sp p d q r c n k D.size) := by
  obtain ⟨ab, hab⟩ : ∃ ab, ab = w.heap.size := ⟨_, rfl⟩
  obtain ⟨wd, hwd⟩ : ∃ wd, wd = w.alloc (AB12 4 no fa fn fc) := ⟨_, rfl⟩
  have HP := hid (show PwE w0 wd [(ab, AB12 4 no fa fn fc), (sp, SBox p)] p d q r s s D D n k by rw [hwd, hab]; exact h.more ((Touch.refl _ w).alloc _) w.heap.size _ (heap_alloc_new w _) (Nat.le_refl _))
  have HJ := hid hj
  have HC := hid (And.intro (And.intro hc1 hc2) (And.intro hn hk9))
  have HG := hid h.facts
  have HAx := hid (HP.out.other (ab, AB12 4 no fa fn fc) List.mem_cons_self)
  have HSx := hid (HP.out.other (sp, SBox p) (List.mem_cons_of_mem _ List.mem_cons_self))
  have hm1 := (hj.maps hc1 hc2).2
  have HSpl := hid (show Calls Tryz.prog 15 #[Ptr sp] wd (Tells (Ptr p) wd) from spool_any HSx.out)
  have c0 : wd.cell? ⟨ab, 0, none⟩ = some (.int .i64 4) := cellOf HAx.out 0
  obtain ⟨zz, hzz⟩ : ∃ zz : Int, zz = (F.flX s D).1 := ⟨_, rfl⟩
  have hl9 : s.L.length ≤ 10000 := by have := hj.len HG.out.1; omega
  have hw1 : (F.which s F.isDirty).length ≤ 1 := hj.few HG.out.1 _
  have HA := hid (show Calls Tryz.prog 48 #[Ptr p] wd (PPw w0 [(ab, AB12 4 no fa fn fc), (sp, SBox p)] p d q r (F.flS s D) s (F.flX s D).2 D n (k + (F.which s F.isDirty).length + 1) (.int .i64 zz)) by rw [hzz]; exact pw_flush HP.out (by omega))
  have HR := hid (fun (w2 : World) (h2 : PwE w0 w2 [(ab, AB12 4 no fa fn fc), (sp, SBox p)] p d q r (F.flS s D) s (F.flX s D).2 D n (k + (F.which s F.isDirty).length + 1)) => show Calls Tryz.prog 49 #[Ptr q] w2 (PPw w0 [(ab, AB12 4 no fa fn fc), (sp, SBox p)] p d q r (F.flS s D) (F.flS s D) (F.flX s D).2 (F.flX s D).2 n (k + (F.which s F.isDirty).length + 1) (.int .i64 zz)) by rw [hzz]; exact pq_flush h2 HG.out.1 HG.out.2.1 HG.out.2.2.1 (by omega))
  have HJ2 := hid (hj.fl D)
  unfold Ptr at *
  clear h hj hn hk9 hm1 hc1 hc2 hzz hl9
  go_enter Tryz.func16, Tryz.ntmps16
  go_upto_region 1 with fail
  rw [← hab, ← hwd]
  clear hab hwd
  go_wp2_with (first
    | (go_at_call 15; refine HSpl.out.mono ?_; rintro e w1 ⟨rfl, hw⟩; rw [hw]; clear hw)
    | (go_at_call 48; refine (HA.out).mono ?_; rintro e w2 ⟨rfl, H2⟩)
    | (go_at_call 49; refine (HR.out w2 H2.out).mono ?_; rintro e w3 ⟨rfl, H3⟩))
  go_ret
  exact ⟨rfl, _, _, (H3.out.fewer (fun x hx => List.mem_cons_of_mem _ hx)).later (by omega) (by omega), HJ2.out, by rw [fl_size]⟩
set_option maxRecDepth 100000 in
set_option maxHeartbeats 4000000 in
theorem act12_other {w0 w : World} {sp p d q r n k c : Nat} {s : F.Po} {D : dSt} (h : PwE w0 w [(sp, SBox p)] p d q r s s D D n k) (hj : Jz c s) (hc1 : 1 ≤ c) (hc2 : c ≤ 1920) (hn : n + 40 ≤ 1000000) (hk9 : k ≤ 800) (no : Int) (fa : Option Addr) (fn fc : Nat) (kd : Int) (hk : kd < 0 ∨ 7 < kd) :
    Calls Tryz.prog 16 #[.agg #[.int .i64 kd, .int .i64 no, .slice fa fn fc], Ptr d, Ptr r, Ptr sp, Ptr q] w (PA12 w0 sp p d q r c n k D.size) := by
  obtain ⟨ab, hab⟩ : ∃ ab, ab = w.heap.size := ⟨_, rfl⟩
  obtain ⟨wd, hwd⟩ : ∃ wd, wd = w.alloc (AB12 kd no fa fn fc) := ⟨_, rfl⟩
  have HP := hid (show PwE w0 wd [(ab, AB12 kd no fa fn fc), (sp, SBox p)] p d q r s s D D n k by rw [hwd, hab]; exact h.more ((Touch.refl _ w).alloc _) w.heap.size _ (heap_alloc_new w _) (Nat.le_refl _))
  have HJ := hid hj
  have HC := hid (And.intro (And.intro hc1 hc2) (And.intro hn hk9))
  have HG := hid h.facts
  have HAx := hid (HP.out.other (ab, AB12 kd no fa fn fc) List.mem_cons_self)
  have HSx := hid (HP.out.other (sp, SBox p) (List.mem_cons_of_mem _ List.mem_cons_self))
  have hm1 := (hj.maps hc1 hc2).2
  have HSpl := hid (show Calls Tryz.prog 15 #[Ptr sp] wd (Tells (Ptr p) wd) from spool_any HSx.out)
  have c0 : wd.cell? ⟨ab, 0, none⟩ = some (.int .i64 kd) := cellOf HAx.out 0
  have q0 : (kd == 0) = false := by simp; omega
  have q1 : (kd == 1) = false := by simp; omega
  have q2 : (kd == 2) = false := by simp; omega
  have q3 : (kd == 3) = false := by simp; omega
  have q4 : (kd == 4) = false := by simp; omega
  have q5 : (kd == 5) = false := by simp; omega
  have q6 : (kd == 6) = false := by simp; omega
  have q7 : (kd == 7) = false := by simp; omega
  unfold Ptr at *
  clear h hj hn hk9 hm1 hc1 hc2 hk
  go_enter Tryz.func16, Tryz.ntmps16
  go_upto_region 1 with fail
  rw [← hab, ← hwd]
  clear hab hwd
  go_wp2_with ((go_at_call 15; refine HSpl.out.mono ?_; rintro e w1 ⟨rfl, hw⟩; rw [hw]; clear hw))
  go_ret
  exact ⟨rfl, _, _, (HP.out.fewer (fun x hx => List.mem_cons_of_mem _ hx)).later (by omega) (by omega), HJ.out, rfl⟩
set_option maxRecDepth 100000 in
set_option maxHeartbeats 4000000 in
theorem act12_open {w0 w : World} {sp p d q r n k c : Nat} {s : F.Po} {D : dSt} (h : PwE w0 w [(sp, SBox p)] p d q r s s D D n k) (hj : Jz c s) (hc1 : 1 ≤ c) (hc2 : c ≤ 1920) (hn : n + 40 ≤ 1000000) (hk9 : k ≤ 800) (no : Int) (fa : Option Addr) (fn fc : Nat) :
    Calls Tryz.prog 16 #[.agg #[.int .i64 7, .int .i64 no, .slice fa fn fc], Ptr d, Ptr r, Ptr sp, Ptr q] w (PA12 w0 sp p d q r c n k D.size) := by
  obtain ⟨ab, hab⟩ : ∃ ab, ab = w.heap.size := ⟨_, rfl⟩
  obtain ⟨wd, hwd⟩ : ∃ wd, wd = w.alloc (AB12 7 no fa fn fc) := ⟨_, rfl⟩
  have HP := hid (show PwE w0 wd [(ab, AB12 7 no fa fn fc), (sp, SBox p)] p d q r s s D D n k by rw [hwd, hab]; exact h.more ((Touch.refl _ w).alloc _) w.heap.size _ (heap_alloc_new w _) (Nat.le_refl _))
  have HJ := hid hj
  have HC := hid (And.intro (And.intro hc1 hc2) (And.intro hn hk9))
  have HG := hid h.facts
  have HAx := hid (HP.out.other (ab, AB12 7 no fa fn fc) List.mem_cons_self)
  have HSx := hid (HP.out.other (sp, SBox p) (List.mem_cons_of_mem _ List.mem_cons_self))
  have hm1 := (hj.maps hc1 hc2).2
  have HSpl := hid (show Calls Tryz.prog 15 #[Ptr sp] wd (Tells (Ptr p) wd) from spool_any HSx.out)
  have c0 : wd.cell? ⟨ab, 0, none⟩ = some (.int .i64 7) := cellOf HAx.out 0
  obtain ⟨z, hz⟩ : ∃ z, z = G.mapE s D 0 := ⟨_, rfl⟩
  obtain ⟨zi, hzi⟩ : ∃ zi : Int, zi = (z : Int) := ⟨_, rfl⟩
  have HA := hid (show Calls Tryz.prog 55 #[Ptr p] wd (fun e w' => (∃ v, e = .returned (.tuple #[v, .int .i64 zi]) ∧ ((z = 0 ∧ ∃ l, v = Ptr l) ∨ (z ≠ 0 ∧ v = .pointer none))) ∧ Hid (PwE w0 w' [(ab, AB12 7 no fa fn fc), (sp, SBox p)] p d q r (F.getS s D ((0 : Nat) : Int)) s D D (n + 1) k)) by rw [hzi]; exact pw_open HP.out (by omega) (by omega) hm1 z hz)
  have HR := hid (fun (w2 : World) (h2 : PwE w0 w2 [(ab, AB12 7 no fa fn fc), (sp, SBox p)] p d q r (F.getS s D ((0 : Nat) : Int)) s D D (n + 1) k) => show Calls Tryz.prog 56 #[Ptr q] w2 (fun e w' => ∃ v, e = .returned (.tuple #[v, .int .i64 zi]) ∧ Hid (PwE w0 w' [(ab, AB12 7 no fa fn fc), (sp, SBox p)] p d q r (F.getS s D ((0 : Nat) : Int)) (F.getS s D ((0 : Nat) : Int)) D D (n + 1) k)) from by
    have q1 := rtakenZ h2 HG.out.2.2.1 (by omega) HG.out.2.1 HG.out.1 hj.mo hj.nl hj.ct hc1 hc2
    have q2 := tk_state (s := s) (D := D) hm1
    have q3 : (G.takenG D (G.maps (G.cnt s)) 0 s []).2.1 = z := by rw [hz, hm1]; exact tk_code s D
    refine q1.mono ?_
    rintro e w' ⟨a, cap, he, H⟩
    refine ⟨_, by rw [he, q3, hzi], ?_⟩
    have h3 := H.out.2
    rw [q2] at h3
    exact h3)
  have HJ2 := hid (hj.get D)
  have hn1 := eq_space_none
  have hn2 := eq_space_some
  have hzc : (z = 0 ∧ zi = 0) ∨ (z ≠ 0 ∧ decide (zi = 0) = false ∧ ¬ zi = 0) := by
    by_cases e : z = 0
    · exact .inl ⟨e, by rw [hzi, e]; rfl⟩
    · exact .inr ⟨e, by rw [hzi]; simp; omega, by omega⟩
  unfold Ptr at *
  clear h hj hn hk9 hm1 hc1 hc2 hz hzi
  go_enter Tryz.func16, Tryz.ntmps16
  go_upto_region 1 with fail
  rw [← hab, ← hwd]
  clear hab hwd
  go_upto_region 28 with (first
    | (go_at_call 15; refine HSpl.out.mono ?_; rintro e w1 ⟨rfl, hw⟩; rw [hw]; clear hw)
    | (go_at_call 55; refine HA.out.mono ?_; rintro e w2 ⟨⟨v, rfl, hv⟩, H2⟩))
  go_upto_region 29 with (go_at_call 56; refine (HR.out w2 H2.out).mono ?_; rintro e w3 ⟨v2, rfl, H3⟩)
  rcases hv with ⟨z0, l, rfl⟩ | ⟨z1, rfl⟩
  · rcases hzc with ⟨_, rfl⟩ | ⟨z2, _⟩
    · go_wp2_with fail
      go_ret
      exact ⟨rfl, _, _, (H3.out.fewer (fun x hx => List.mem_cons_of_mem _ hx)).later (by omega) (by omega), HJ2.out, rfl⟩
    · exact absurd z0 z2
  · rcases hzc with ⟨z2, _⟩ | ⟨_, hd, hd2⟩
    · exact absurd z2 z1
    · go_wp2_with fail
      go_ret
      exact ⟨by show Ending.returned (Value.bool (zi != 0)) = _; rw [show (zi != 0) = true by simpa using hd2], _, _, (H3.out.fewer (fun x hx => List.mem_cons_of_mem _ hx)).later (by omega) (by omega), HJ2.out, rfl⟩
end Go.Proofs.YtjlennpoaefllaaGreatDoor

/- The acts of a pair of spaces: Free, Cut. -/
namespace Go.Proofs.YtjlennpoaefllaaGreatDoor
open Go.RowKit
set_option maxRecDepth 100000 in
set_option maxHeartbeats 4000000 in
theorem act12_free {w0 w : World} {sp p d q r n k c : Nat} {s : F.Po} {D : dSt} (h : PwE w0 w [(sp, SBox p)] p d q r s s D D n k) (hj : Jz c s) (hc1 : 1 ≤ c) (hc2 : c ≤ 1920) (hn : n + 40 ≤ 1000000) (hk9 : k ≤ 800) (no : Int) (fa : Option Addr) (fn fc : Nat) :
    Calls Tryz.prog 16 #[.agg #[.int .i64 1, .int .i64 no, .slice fa fn fc], Ptr d, Ptr r, Ptr sp, Ptr q] w (PA12 w0 sp p d q r c n k D.size) := by
  obtain ⟨ab, hab⟩ : ∃ ab, ab = w.heap.size := ⟨_, rfl⟩
  obtain ⟨wd, hwd⟩ : ∃ wd, wd = w.alloc (AB12 1 no fa fn fc) := ⟨_, rfl⟩
  have HP := hid (show PwE w0 wd [(ab, AB12 1 no fa fn fc), (sp, SBox p)] p d q r s s D D n k by rw [hwd, hab]; exact h.more ((Touch.refl _ w).alloc _) w.heap.size _ (heap_alloc_new w _) (Nat.le_refl _))
  have HJ := hid hj
  have HC := hid (And.intro (And.intro hc1 hc2) (And.intro hn hk9))
  have HG := hid h.facts
  have HAx := hid (HP.out.other (ab, AB12 1 no fa fn fc) List.mem_cons_self)
  have HSx := hid (HP.out.other (sp, SBox p) (List.mem_cons_of_mem _ List.mem_cons_self))
  have hm1 := (hj.maps hc1 hc2).2
  have HSpl := hid (show Calls Tryz.prog 15 #[Ptr sp] wd (Tells (Ptr p) wd) from spool_any HSx.out)
  have c0 : wd.cell? ⟨ab, 0, none⟩ = some (.int .i64 1) := cellOf HAx.out 0
  have HA := fun (w1 : World) (h1 : PwE w0 w1 [(ab, AB12 1 no fa fn fc), (sp, SBox p)] p d q r s s D D n k) => pw_free h1 (List.mem_cons_of_mem _ List.mem_cons_self) (by omega) (by omega) no
  have HR := fun (w2 : World) (s1 : F.Po) (h2 : PwE w0 w2 [(ab, AB12 1 no fa fn fc), (sp, SBox p)] p d q r s1 s D D (n + 10) k) => rfreeZ h2 HG.out.2.2.1 (by omega) HG.out.2.1 HG.out.1 hj.mo hj.nl hj.ct hc1 hc2 no
  have HJ2 := hj.free hc1 hc2 D no
  obtain ⟨R, hR⟩ : ∃ R, R = G.freeG D s no := ⟨_, rfl⟩
  rw [← hR] at HA HR HJ2
  clear hR
  obtain ⟨z, S2⟩ := R
  obtain ⟨zz, hzz⟩ : ∃ zz : Int, zz = (z : Int) := ⟨_, rfl⟩
  have HA := hid (show Calls Tryz.prog 32 #[Ptr sp, .int .i64 no] wd.drew (fun e w' => e = .returned (.int .i64 zz) ∧ Hid (PwE w0 w' [(ab, AB12 1 no fa fn fc), (sp, SBox p)] p d q r S2 s D D (n + 10) k)) by rw [hzz]; exact HA wd.drew (HP.out.adds (Touch.refl _ wd).drew))
  have HR := hid (fun (w2 : World) (h2 : PwE w0 w2 [(ab, AB12 1 no fa fn fc), (sp, SBox p)] p d q r S2 s D D (n + 10) k) => show Calls Tryz.prog 43 #[Ptr q, .int .i64 no] w2 (fun e w' => e = .returned (.int .i64 zz) ∧ Hid (PwE w0 w' [(ab, AB12 1 no fa fn fc), (sp, SBox p)] p d q r S2 S2 D D (n + 10) k)) by rw [hzz]; exact HR w2 S2 h2)
  have HJ2 := hid HJ2
  unfold Ptr at *
  clear h hj hn hk9 hm1 hc1 hc2 hzz
  go_enter Tryz.func16, Tryz.ntmps16
  go_upto_region 1 with fail
  rw [← hab, ← hwd]
  clear hab hwd
  go_upto_region 8 with (go_at_call 15; refine HSpl.out.mono ?_; rintro e w1 ⟨rfl, hw⟩; rw [hw]; clear hw)
  clear c0
  refine H_begin (S := fun w' : World => w'.heap[ab]? = some (AB12 1 no fa fn fc)) (by kernel_rfl) ?_
  have hS : (fun w' : World => w'.heap[ab]? = some (AB12 1 no fa fn fc)) wd.drew := HAx.out
  refine H_put (i := 0) 49 (v := Ptr sp) rfl rfl (by kernel_rfl) (by kernel_rfl) (by kernel_rfl) (fun _ _ _ h => h) (Or.inl ⟨by rfl, fun w' hw' => ?_⟩) hS ?_
  · go_simp
  simp only [Act.put, List.setIfInBounds_toArray, List.set_cons_zero, List.set_cons_succ]
  refine H_put (i := 1) 50 (v := .pointer (some ⟨ab, 1, none⟩)) rfl rfl (by kernel_rfl) (by kernel_rfl) (by kernel_rfl) (fun _ _ _ h => h) (Or.inl ⟨by rfl, fun w' hw' => ?_⟩) hS ?_
  · go_simp
  simp only [Act.put, List.setIfInBounds_toArray, List.set_cons_zero, List.set_cons_succ]
  refine H_put (i := 2) 51 (v := .int .i64 no) rfl rfl (by kernel_rfl) (by kernel_rfl) (by kernel_rfl) (fun _ _ _ h => h) (Or.inl ⟨by rfl, fun w' hw' => ?_⟩) hS ?_
  · have c : w'.cell? ⟨ab, 1, none⟩ = some (.int .i64 no) := cellOf hw' 1; go_simp
  simp only [Act.put, List.setIfInBounds_toArray, List.set_cons_zero, List.set_cons_succ]
  refine H_put (i := 4) 53 (v := Ptr q) rfl rfl (by kernel_rfl) (by kernel_rfl) (by kernel_rfl) (fun _ _ _ h => h) (Or.inl ⟨by rfl, fun w' hw' => ?_⟩) hS ?_
  · go_simp
  simp only [Act.put, List.setIfInBounds_toArray, List.set_cons_zero, List.set_cons_succ]
  refine H_put (i := 5) 54 (v := .pointer (some ⟨ab, 1, none⟩)) rfl rfl (by kernel_rfl) (by kernel_rfl) (by kernel_rfl) (fun _ _ _ h => h) (Or.inl ⟨by rfl, fun w' hw' => ?_⟩) hS ?_
  · go_simp
  simp only [Act.put, List.setIfInBounds_toArray, List.set_cons_zero, List.set_cons_succ]
  refine H_put (i := 6) 55 (v := .int .i64 no) rfl rfl (by kernel_rfl) (by kernel_rfl) (by kernel_rfl) (fun _ _ _ h => h) (Or.inl ⟨by rfl, fun w' hw' => ?_⟩) hS ?_
  · have c : w'.cell? ⟨ab, 1, none⟩ = some (.int .i64 no) := cellOf hw' 1; go_simp
  simp only [Act.put, List.setIfInBounds_toArray, List.set_cons_zero, List.set_cons_succ]
  refine H_call (i := 3) 52 32 #[Ptr sp, .int .i64 no] (by kernel_rfl) rfl rfl (by rfl) (by go_simp) (HA.out) ?_
  rintro e w2 ⟨rfl, H2⟩
  have hS2 : (fun w' : World => w'.heap[ab]? = some (AB12 1 no fa fn fc)) _ := H2.out.other (ab, AB12 1 no fa fn fc) List.mem_cons_self
  refine ⟨_, _, rfl, hS2, fun w' h => h, ?_⟩
  clear hS; have hS := hS2; clear hS2
  simp only [Act.put, List.setIfInBounds_toArray, List.set_cons_zero, List.set_cons_succ]
  refine H_call (i := 7) 56 43 #[Ptr q, .int .i64 no] (by kernel_rfl) rfl rfl (by rfl) (by go_simp) (HR.out w2 H2.out) ?_
  rintro e w3 ⟨rfl, H3⟩
  have hS2 : (fun w' : World => w'.heap[ab]? = some (AB12 1 no fa fn fc)) _ := H3.out.other (ab, AB12 1 no fa fn fc) List.mem_cons_self
  refine ⟨_, _, rfl, hS2, fun w' h => h, ?_⟩
  clear hS; have hS := hS2; clear hS2
  simp only [Act.put, List.setIfInBounds_toArray, List.set_cons_zero, List.set_cons_succ]
  refine H_put (i := 8) 57 (v := .bool true) rfl rfl (by kernel_rfl) (by kernel_rfl) (by kernel_rfl) (fun _ _ _ h => h) (Or.inl ⟨by rfl, fun w' hw' => ?_⟩) hS ?_
  · go_simp
  simp only [Act.put, List.setIfInBounds_toArray, List.set_cons_zero, List.set_cons_succ]
  refine H_put (i := 9) 10 (v := .bool true) rfl rfl (by kernel_rfl) (by kernel_rfl) (by kernel_rfl) (fun _ _ _ h => h) (Or.inl ⟨by rfl, fun w' hw' => ?_⟩) hS ?_
  · go_simp
  simp only [Act.put, List.setIfInBounds_toArray, List.set_cons_zero, List.set_cons_succ]
  refine wpAnyH_done (by kernel_rfl) ?_ _
  clear hS
  go_wp2_with fail
  go_ret
  exact ⟨rfl, _, _, (H3.out.fewer (fun x hx => List.mem_cons_of_mem _ hx)).later (by omega) (by omega), HJ2.out, rfl⟩
set_option maxRecDepth 100000 in
set_option maxHeartbeats 4000000 in
theorem act12_cut {w0 w : World} {sp p d q r n k c : Nat} {s : F.Po} {D : dSt} (h : PwE w0 w [(sp, SBox p)] p d q r s s D D n k) (hj : Jz c s) (hc1 : 1 ≤ c) (hc2 : c ≤ 1920) (hn : n + 40 ≤ 1000000) (hk9 : k ≤ 800) (no : Int) (fa : Option Addr) (fn fc : Nat) (hno : no ≤ 9223372036854775807) :
    Calls Tryz.prog 16 #[.agg #[.int .i64 5, .int .i64 no, .slice fa fn fc], Ptr d, Ptr r, Ptr sp, Ptr q] w (PA12 w0 sp p d q r c n k D.size) := by
  obtain ⟨ab, hab⟩ : ∃ ab, ab = w.heap.size := ⟨_, rfl⟩
  obtain ⟨wd, hwd⟩ : ∃ wd, wd = w.alloc (AB12 5 no fa fn fc) := ⟨_, rfl⟩
  have HP := hid (show PwE w0 wd [(ab, AB12 5 no fa fn fc), (sp, SBox p)] p d q r s s D D n k by rw [hwd, hab]; exact h.more ((Touch.refl _ w).alloc _) w.heap.size _ (heap_alloc_new w _) (Nat.le_refl _))
  have HJ := hid hj
  have HC := hid (And.intro (And.intro hc1 hc2) (And.intro hn hk9))
  have HG := hid h.facts
  have HAx := hid (HP.out.other (ab, AB12 5 no fa fn fc) List.mem_cons_self)
  have HSx := hid (HP.out.other (sp, SBox p) (List.mem_cons_of_mem _ List.mem_cons_self))
  have hm1 := (hj.maps hc1 hc2).2
  have HSpl := hid (show Calls Tryz.prog 15 #[Ptr sp] wd (Tells (Ptr p) wd) from spool_any HSx.out)
  have c0 : wd.cell? ⟨ab, 0, none⟩ = some (.int .i64 5) := cellOf HAx.out 0
  have HZ8 := hid (cutD_ok HG.out.2.2.1 no hno).2
  obtain ⟨zz, hzz⟩ : ∃ zz : Int, zz = cutE no := ⟨_, rfl⟩
  have HA := hid (show Calls Tryz.prog 50 #[Ptr d, .int .i64 no] wd.drew (PPw w0 [(ab, AB12 5 no fa fn fc), (sp, SBox p)] p d q r s s (cutD D no) D n k (.int .i64 zz)) by rw [hzz]; exact pw_cut (HP.out.adds (Touch.refl _ wd).drew) no hno)
  have HR := hid (fun (w2 : World) (h2 : PwE w0 w2 [(ab, AB12 5 no fa fn fc), (sp, SBox p)] p d q r s s (cutD D no) D n k) => show Calls Tryz.prog 51 #[Ptr r, .int .i64 no] w2 (PPw w0 [(ab, AB12 5 no fa fn fc), (sp, SBox p)] p d q r s s (cutD D no) (cutD D no) n k (.int .i64 zz)) by rw [hzz]; exact pq_cut h2 no)
  unfold Ptr at *
  clear h hj hn hk9 hm1 hc1 hc2 hzz hno
  go_enter Tryz.func16, Tryz.ntmps16
  go_upto_region 1 with fail
  rw [← hab, ← hwd]
  clear hab hwd
  go_upto_region 16 with (go_at_call 15; refine HSpl.out.mono ?_; rintro e w1 ⟨rfl, hw⟩; rw [hw]; clear hw)
  clear c0
  refine H_begin (S := fun w' : World => w'.heap[ab]? = some (AB12 5 no fa fn fc)) (by kernel_rfl) ?_
  have hS : (fun w' : World => w'.heap[ab]? = some (AB12 5 no fa fn fc)) wd.drew := HAx.out
  refine H_put (i := 0) 81 (v := Ptr d) rfl rfl (by kernel_rfl) (by kernel_rfl) (by kernel_rfl) (fun _ _ _ h => h) (Or.inl ⟨by rfl, fun w' hw' => ?_⟩) hS ?_
  · go_simp
  simp only [Act.put, List.setIfInBounds_toArray, List.set_cons_zero, List.set_cons_succ]
  refine H_put (i := 1) 82 (v := .pointer (some ⟨ab, 1, none⟩)) rfl rfl (by kernel_rfl) (by kernel_rfl) (by kernel_rfl) (fun _ _ _ h => h) (Or.inl ⟨by rfl, fun w' hw' => ?_⟩) hS ?_
  · go_simp
  simp only [Act.put, List.setIfInBounds_toArray, List.set_cons_zero, List.set_cons_succ]
  refine H_put (i := 2) 83 (v := .int .i64 no) rfl rfl (by kernel_rfl) (by kernel_rfl) (by kernel_rfl) (fun _ _ _ h => h) (Or.inl ⟨by rfl, fun w' hw' => ?_⟩) hS ?_
  · have c : w'.cell? ⟨ab, 1, none⟩ = some (.int .i64 no) := cellOf hw' 1; go_simp
  simp only [Act.put, List.setIfInBounds_toArray, List.set_cons_zero, List.set_cons_succ]
  refine H_put (i := 4) 85 (v := Ptr r) rfl rfl (by kernel_rfl) (by kernel_rfl) (by kernel_rfl) (fun _ _ _ h => h) (Or.inl ⟨by rfl, fun w' hw' => ?_⟩) hS ?_
  · go_simp
  simp only [Act.put, List.setIfInBounds_toArray, List.set_cons_zero, List.set_cons_succ]
  refine H_put (i := 5) 86 (v := .pointer (some ⟨ab, 1, none⟩)) rfl rfl (by kernel_rfl) (by kernel_rfl) (by kernel_rfl) (fun _ _ _ h => h) (Or.inl ⟨by rfl, fun w' hw' => ?_⟩) hS ?_
  · go_simp
  simp only [Act.put, List.setIfInBounds_toArray, List.set_cons_zero, List.set_cons_succ]
  refine H_put (i := 6) 87 (v := .int .i64 no) rfl rfl (by kernel_rfl) (by kernel_rfl) (by kernel_rfl) (fun _ _ _ h => h) (Or.inl ⟨by rfl, fun w' hw' => ?_⟩) hS ?_
  · have c : w'.cell? ⟨ab, 1, none⟩ = some (.int .i64 no) := cellOf hw' 1; go_simp
  simp only [Act.put, List.setIfInBounds_toArray, List.set_cons_zero, List.set_cons_succ]
  refine H_call (i := 3) 84 50 #[Ptr d, .int .i64 no] (by kernel_rfl) rfl rfl (by rfl) (by go_simp) (HA.out) ?_
  rintro e w2 ⟨rfl, H2⟩
  have hS2 : (fun w' : World => w'.heap[ab]? = some (AB12 5 no fa fn fc)) _ := H2.out.other (ab, AB12 5 no fa fn fc) List.mem_cons_self
  refine ⟨_, _, rfl, hS2, fun w' h => h, ?_⟩
  clear hS; have hS := hS2; clear hS2
  simp only [Act.put, List.setIfInBounds_toArray, List.set_cons_zero, List.set_cons_succ]
  refine H_call (i := 7) 88 51 #[Ptr r, .int .i64 no] (by kernel_rfl) rfl rfl (by rfl) (by go_simp) (HR.out w2 H2.out) ?_
  rintro e w3 ⟨rfl, H3⟩
  have hS2 : (fun w' : World => w'.heap[ab]? = some (AB12 5 no fa fn fc)) _ := H3.out.other (ab, AB12 5 no fa fn fc) List.mem_cons_self
  refine ⟨_, _, rfl, hS2, fun w' h => h, ?_⟩
  clear hS; have hS := hS2; clear hS2
  simp only [Act.put, List.setIfInBounds_toArray, List.set_cons_zero, List.set_cons_succ]
  refine H_put (i := 8) 89 (v := .bool true) rfl rfl (by kernel_rfl) (by kernel_rfl) (by kernel_rfl) (fun _ _ _ h => h) (Or.inl ⟨by rfl, fun w' hw' => ?_⟩) hS ?_
  · go_simp
  simp only [Act.put, List.setIfInBounds_toArray, List.set_cons_zero, List.set_cons_succ]
  refine H_put (i := 9) 10 (v := .bool true) rfl rfl (by kernel_rfl) (by kernel_rfl) (by kernel_rfl) (fun _ _ _ h => h) (Or.inl ⟨by rfl, fun w' hw' => ?_⟩) hS ?_
  · go_simp
  simp only [Act.put, List.setIfInBounds_toArray, List.set_cons_zero, List.set_cons_succ]
  refine wpAnyH_done (by kernel_rfl) ?_ _
  clear hS
  go_wp2_with fail
  go_ret
  exact ⟨rfl, _, _, (H3.out.fewer (fun x hx => List.mem_cons_of_mem _ hx)).later (by omega) (by omega), HJ.out, HZ8.out⟩
end Go.Proofs.YtjlennpoaefllaaGreatDoor
