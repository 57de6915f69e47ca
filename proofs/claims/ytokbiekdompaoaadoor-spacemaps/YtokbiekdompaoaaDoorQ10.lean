/- Texts put together: PPage, PConcat, PFill. -/
import Derived.Test.YtokbiekdompaoaaDoorQ07
import Derived.Test.YtokbiekdompaoaaDoorQ08
import Derived.Test.YtokbiekdompaoaaDoorQ09
/- The page that says this: (content).page. -/
namespace Go.Proofs.YtokbiekdompaoaaDoor
open Go.RowKit

set_option maxRecDepth 100000 in
theorem sliceA_h (g h : Nat) (h3 : h ≤ 256) (w : World) : (Instr.sliceAt 102 (.pointer (some ⟨g, 0, none⟩)) none (some (.int .i64 (h : Int))) none).run Tryd.prog w = .ok (.slice (some ⟨g, 0, none⟩) h 256) w := by
  rw [run_sliceAt_array_h (P := Tryd.prog) w 102 ⟨g, 0, none⟩ u43 .i64 (h : Int) (by omega) (by rw [l43]; omega), e43, sz5, l43]
  simp only [Result.andThen, slicedAt, Int.toNat_natCast, Nat.sub_zero]
  rw [if_neg (by decide), Addr.add_mid]
set_option maxRecDepth 100000 in
theorem sliceA_lh (g l h : Nat) (h1 : l ≤ h) (h3 : h ≤ 256) (hl : l < 256) (w : World) : (Instr.sliceAt 102 (.pointer (some ⟨g, 0, none⟩)) (some (.int .i64 (l : Int))) (some (.int .i64 (h : Int))) none).run Tryd.prog w = .ok (.slice (some ⟨g, l, none⟩) (h - l) (256 - l)) w := by
  rw [run_sliceAt_array_lh (P := Tryd.prog) w 102 ⟨g, 0, none⟩ u43 .i64 .i64 (l : Int) (h : Int) (by omega) (by omega) (by rw [l43]; omega), e43, sz5, l43]
  simp only [Result.andThen, slicedAt, Int.toNat_natCast, Nat.mul_one]
  rw [if_neg (by omega), Addr.add_mid, Nat.zero_add]
set_option maxRecDepth 100000 in
/-- Bytes copied into a sector, where the operation stands alone. -/
theorem wp_copy_sec {w : World} {o : Oper} {act : Act} {K : Act → World → Prop} {Q : Exit → Act → World → Prop} (d s : Operand)
    (ho : o.op = .call { callee := .builtin .copy, args := #[d, s], argTypes := #[55, 55] }) (g off n cap : Nat) (hd : act.eval d = .slice (some ⟨g, off, none⟩) n cap) (a : Option Addr) (xs : List UInt8) (cx m : Nat) (hm : xs.length = m) (hs : act.eval s = .slice a m cx)
    (cs ds : List UInt8) (hds : M.splice cs off xs = ds) (hS : Sec w g cs) (hA : At w a xs) (hc : a = none → cx = 0) (hx : xs.length ≤ n) (hfit : off + xs.length ≤ 256)
    (h : ∀ w', Sec w' g ds → Touch (fun k => k = g) w w' → K (act.put o.dst (.int .i64 (m : Int))) w') : o.wp Tryd.prog act w K Q := by
  subst hm
  subst hds
  obtain ⟨w', hr, hS', hT⟩ := copy_run w o.type g off n cap a xs cx cs hS hA hc hx hfit
  unfold Oper.wp execOp
  simp only [ho, resolve, invoke, builtin, Sem.run_bind, Sem.run_pure, Result.andThen_ok, List.map_toArray, List.map_cons, List.map_nil, hd, hs, hr]
  exact h w' hS' hT
/-- What is put of a number, in so many bytes. -/
def PFix (w : World) (n k : Nat) (e : Ending) (w' : World) : Prop := ∃ a cap, e = .returned (.slice a k cap) ∧ Hid (Lies w' w'.heap.size a (M.fix n k) cap ∧ Adds w w')
set_option maxRecDepth 100000 in
theorem putFixedK (n k : Nat) (z : Int) (hz : M.clamp z = k) (w : World) : Calls Tryd.prog 58 #[.slice none 0 0, .int .u64 (n : Int), .int .i64 z] w (PFix w n k) := by
  have h := putFixed_any none [] 0 n z w (by decide) (fun _ => rfl) (At.nil _ _)
  rw [hz, List.nil_append] at h
  refine h.mono ?_
  rintro e w' ⟨v, rfl, h1, h2⟩
  obtain ⟨a, cap, rfl, h3⟩ := Own.lies h1
  exact ⟨a, cap, by rw [M.len_fix], h3, h2⟩
/-- What page tells. -/
def PPage (w : World) (cs : List UInt8) (e : Ending) (w' : World) : Prop := ∃ g, e = .returned (.slice (some ⟨g, 0, none⟩) 256 256) ∧ Hid (w.heap.size ≤ g ∧ Sec w' g cs ∧ Adds w w')
set_option maxRecDepth 100000 in
set_option maxHeartbeats 2000000 in
theorem gpage_any {Q : Nat → Prop} (no : Nat) (kd : UInt8) (a : Option Addr) (hs : List Part) (n cap : Nat) (hn : hs.length = n) (w : World) (h : GQ w Q ⟨a, cap, hs⟩) (hno : no < 2147483648) (ht : M.taken (hs.map (·.bs)) ≤ 244) :
    Calls Tryd.prog 47 #[.agg #[.int .i64 (no : Int), .int .u8 (kd.toNat : Int), .slice a n cap]] w (PPage w (M.pbytes ⟨no, kd, hs.map (·.bs)⟩)) := by
  obtain ⟨cs, hcs⟩ : ∃ cs, cs = hs.map (·.bs) := ⟨_, rfl⟩
  have hcl : cs.length = n := by rw [hcs, List.length_map, hn]
  rw [← hcs] at ht ⊢
  have ht2 : 2 * n + cs.flatten.length ≤ 244 := by unfold M.taken at ht; omega
  obtain ⟨m, hm⟩ : ∃ m, m = 2 * n := ⟨_, rfl⟩
  have hm2 : m + cs.flatten.length ≤ 244 := by omega
  have hwm : IntKind.i64.wrap (2 * (n : Int)) = (m : Int) := by rw [IntKind.wrap_i64]; omega
  obtain ⟨m8, hm8⟩ : ∃ m8, m8 = 8 + m := ⟨_, rfl⟩
  have hwm8 : IntKind.i64.wrap (8 + (m : Int)) = (m8 : Int) := by rw [IntKind.wrap_i64]; omega
  have hm82 : m8 + cs.flatten.length ≤ 252 := by omega
  obtain ⟨cb, hcb⟩ : ∃ cb, cb = UInt8.ofNat n := ⟨_, rfl⟩
  have hcb2 : IntKind.u8.wrap (n : Int) = (cb.toNat : Int) := by rw [hcb, M.ofNat_toNat _ (by omega)]; show (n : Int) % 256 = _; omega
  have hwn : IntKind.u64.wrap (no : Int) = (no : Int) := by show (no : Int) % 18446744073709551616 = _; omega
  have hn122 : n ≤ 122 := by omega
  have HG := hid h
  have HC := hid (And.intro hcs (And.intro hcl (And.intro ht (And.intro hcb (And.intro (show m8 = 8 + 2 * n by omega) hn)))))
  have hz43 := zero43
  clear h hcs hcl ht hcb hn ht2 hm8 hm2 hm
  go_enter Tryd.func47, Tryd.ntmps47
  go_upto_region 2 with fail
  obtain ⟨wA, hwA⟩ : ∃ wA, wA = (w.alloc (Obj.cells #[Value.int IntKind.i64 (no : Int), Value.int IntKind.u8 (kd.toNat : Int), Value.slice a n cap] 92)).alloc (Obj.cells Z256 102) := ⟨_, rfl⟩
  have HA := hid (show Adds w wA by rw [hwA]; exact ((Touch.refl _ w).alloc _).alloc _)
  have HB := hid (show wA.heap[w.heap.size]? = some (Obj.cells #[Value.int IntKind.i64 (no : Int), Value.int IntKind.u8 (kd.toNat : Int), Value.slice a n cap] 92 (0, 0)) by rw [hwA]; exact ((Touch.refl (fun _ => False) _).alloc _).at' (heap_alloc_new w _) id)
  have HS := hid (show Sec wA (w.heap.size + 1) (List.replicate 256 0) by
    rw [hwA]
    have q := Sec.new (w.alloc (Obj.cells #[Value.int IntKind.i64 (no : Int), Value.int IntKind.u8 (kd.toNat : Int), Value.slice a n cap] 92))
    simpa using q)
  rw [← hwA]
  clear hwA hz43
  obtain ⟨B, hB⟩ : ∃ B, B = w.heap.size := ⟨_, rfl⟩
  have HB0 := hid hB
  rw [← hB] at HB HS ⊢
  clear hB
  have hsl4 := sliceA_h (B + 1) 4 (by decide)
  have hsl8 := sliceA_lh (B + 1) 8 252 (by decide) (by decide) (by decide)
  have hslm : ∀ w, (Instr.sliceAt 102 (.pointer (some ⟨B + 1, 0, none⟩)) (some (.int .i64 (m8 : Int))) (some (.int .i64 252)) none).run Tryd.prog w = .ok (.slice (some ⟨B + 1, m8, none⟩) (252 - m8) (256 - m8)) w := fun w => sliceA_lh (B + 1) m8 252 (by omega) (by decide) (by omega) w
  refine H_begin (S := fun (w' : World) => w'.heap[B]? = some (.cells #[.int .i64 (no : Int), .int .u8 (kd.toNat : Int), .slice a n cap] 92 (0, 0))) (by kernel_rfl) ?_
  have hS : (fun (w' : World) => w'.heap[B]? = some (.cells #[.int .i64 (no : Int), .int .u8 (kd.toNat : Int), .slice a n cap] 92 (0, 0))) wA.drew := HB.out
  refine H_put (i := 0) 9 (v := .slice (some ⟨B + 1, 0, none⟩) 4 256) rfl rfl (by kernel_rfl) (by kernel_rfl) (by kernel_rfl) (fun _ _ _ h => h) (Or.inl ⟨by rfl, fun w' hw' => ?_⟩) hS ?_
  · go_simp
  simp only [Act.put, List.setIfInBounds_toArray, List.set_cons_zero, List.set_cons_succ]
  refine H_put (i := 1) 10 (v := .pointer (some ⟨B, 0, none⟩)) rfl rfl (by kernel_rfl) (by kernel_rfl) (by kernel_rfl) (fun _ _ _ h => h) (Or.inl ⟨by rfl, fun w' hw' => ?_⟩) hS ?_
  · go_simp
  simp only [Act.put, List.setIfInBounds_toArray, List.set_cons_zero, List.set_cons_succ]
  refine H_put (i := 2) 11 (v := .int .i64 (no : Int)) rfl rfl (by kernel_rfl) (by kernel_rfl) (by kernel_rfl) (fun _ _ _ h => h) (Or.inl ⟨by rfl, fun w' hw' => ?_⟩) hS ?_
  · have c : w'.cell? ⟨B, 0, none⟩ = some (.int .i64 (no : Int)) := cellOf (hw') 0; go_simp
  simp only [Act.put, List.setIfInBounds_toArray, List.set_cons_zero, List.set_cons_succ]
  refine H_put (i := 3) 12 (v := .int .u64 (no : Int)) rfl rfl (by kernel_rfl) (by kernel_rfl) (by kernel_rfl) (fun _ _ _ h => h) (Or.inl ⟨by rfl, fun w' hw' => ?_⟩) hS ?_
  · go_simp
  simp only [Act.put, List.setIfInBounds_toArray, List.set_cons_zero, List.set_cons_succ]
  refine H_call (i := 4) 13 58 #[.slice none 0 0, .int .u64 (no : Int), .int .i64 4] (R := PFix wA.drew no 4) (by kernel_rfl) rfl rfl (by rfl) (by go_simp) ?_ ?_
  · exact putFixedK no 4 4 (by decide) wA.drew
  rintro e w1 ⟨a1, cap1, rfl, H1⟩
  have HA1 := hid (show Adds wA w1 from Touch.trans ((Touch.refl _ wA).drew) H1.out.2)
  have hS2 : (fun (w' : World) => w'.heap[B]? = some (.cells #[.int .i64 (no : Int), .int .u8 (kd.toNat : Int), .slice a n cap] 92 (0, 0))) _ := Touch.at' HA1.out HB.out id
  refine ⟨_, _, rfl, hS2, fun w' h => h, ?_⟩
  clear hS; have hS := hS2; clear hS2
  simp only [Act.put, List.setIfInBounds_toArray, List.set_cons_zero, List.set_cons_succ]
  refine H_do (i := 5) (some 14) (by kernel_rfl) rfl rfl (by rfl) (fun K hK => ?_)
  refine wp_copy_sec (.tmp 9) (.tmp 13) rfl (B + 1) 0 4 256 rfl a1 (M.fix no 4) cap1 4 (M.len_fix _ _) rfl (List.replicate 256 0) _ (M.lay0 no) (HS.out.adds HA1.out) H1.out.1.at_ H1.out.1.non (by rw [M.len_fix]; decide) (by rw [M.len_fix]; decide) ?_
  intro w2 hS2 hT2
  have S2 := hid hS2
  have A2 := hid (show Adds w w2 from Adds.one (HA.out.trans HA1.out) hT2 (by have := HB0.out; omega))
  have B2 := hid (show w2.heap[B]? = some (.cells #[.int .i64 (no : Int), .int .u8 (kd.toNat : Int), .slice a n cap] 92 (0, 0)) from Touch.at' hT2 hS (by omega))
  clear hS2 hT2
  have hS2 : (fun (w' : World) => w'.heap[B]? = some (.cells #[.int .i64 (no : Int), .int .u8 (kd.toNat : Int), .slice a n cap] 92 (0, 0))) _ := B2.out
  refine hK (.int .i64 ((4 : Nat) : Int)) _ hS2 ?_
  clear hK K hS; have hS := hS2; clear hS2
  simp only [Act.put, List.setIfInBounds_toArray, List.set_cons_zero, List.set_cons_succ]
  refine wpAnyH_done (by kernel_rfl) ?_ _
  clear HB HS
  go_upto_region 3 with fail
  refine H_begin (S := fun (w' : World) => w'.heap[B]? = some (.cells #[.int .i64 (no : Int), .int .u8 (kd.toNat : Int), .slice a n cap] 92 (0, 0))) (by kernel_rfl) ?_
  have SD := hid (show Sec w2.drew (B + 1) _ from ⟨S2.out.len, S2.out.box⟩)
  have AD := hid (show Adds w w2.drew from A2.out.drew)
  have BD := hid (show w2.drew.heap[B]? = some (.cells #[.int .i64 (no : Int), .int .u8 (kd.toNat : Int), .slice a n cap] 92 (0, 0)) from B2.out)
  generalize w2.drew = wd at SD AD BD ⊢
  have hS : (fun (w' : World) => w'.heap[B]? = some (.cells #[.int .i64 (no : Int), .int .u8 (kd.toNat : Int), .slice a n cap] 92 (0, 0))) wd := BD.out
  clear S2 A2 B2
  refine H_put (i := 0) 15 (v := .pointer (some ⟨B, 1, none⟩)) rfl rfl (by kernel_rfl) (by kernel_rfl) (by kernel_rfl) (fun _ _ _ h => h) (Or.inl ⟨by rfl, fun w' hw' => ?_⟩) hS ?_
  · go_simp
  simp only [Act.put, List.setIfInBounds_toArray, List.set_cons_zero, List.set_cons_succ]
  refine H_put (i := 1) 16 (v := .int .u8 (kd.toNat : Int)) rfl rfl (by kernel_rfl) (by kernel_rfl) (by kernel_rfl) (fun _ _ _ h => h) (Or.inl ⟨by rfl, fun w' hw' => ?_⟩) hS ?_
  · have c : w'.cell? ⟨B, 1, none⟩ = some (.int .u8 (kd.toNat : Int)) := cellOf (hw') 1; go_simp
  simp only [Act.put, List.setIfInBounds_toArray, List.set_cons_zero, List.set_cons_succ]
  refine H_put (i := 2) 17 (v := .pointer (some ⟨B, 2, none⟩)) rfl rfl (by kernel_rfl) (by kernel_rfl) (by kernel_rfl) (fun _ _ _ h => h) (Or.inl ⟨by rfl, fun w' hw' => ?_⟩) hS ?_
  · go_simp
  simp only [Act.put, List.setIfInBounds_toArray, List.set_cons_zero, List.set_cons_succ]
  refine H_put (i := 3) 18 (v := .slice a n cap) rfl rfl (by kernel_rfl) (by kernel_rfl) (by kernel_rfl) (fun _ _ _ h => h) (Or.inl ⟨by rfl, fun w' hw' => ?_⟩) hS ?_
  · have c : w'.cell? ⟨B, 2, none⟩ = some (.slice a n cap) := cellOf (hw') 2; go_simp
  simp only [Act.put, List.setIfInBounds_toArray, List.set_cons_zero, List.set_cons_succ]
  refine H_put (i := 4) 19 (v := .int .i64 (n : Int)) rfl rfl (by kernel_rfl) (by kernel_rfl) (by kernel_rfl) (fun _ _ _ h => h) (Or.inl ⟨by rfl, fun w' hw' => ?_⟩) hS ?_
  · go_simp
  simp only [Act.put, List.setIfInBounds_toArray, List.set_cons_zero, List.set_cons_succ]
  refine H_put (i := 5) 20 (v := .int .u8 (cb.toNat : Int)) rfl rfl (by kernel_rfl) (by kernel_rfl) (by kernel_rfl) (fun _ _ _ h => h) (Or.inl ⟨by rfl, fun w' hw' => ?_⟩) hS ?_
  · go_simp
  simp only [Act.put, List.setIfInBounds_toArray, List.set_cons_zero, List.set_cons_succ]
  refine H_put (i := 6) 21 (v := .pointer (some ⟨B + 1, 4, none⟩)) rfl rfl (by kernel_rfl) (by kernel_rfl) (by kernel_rfl) (fun _ _ _ h => h) (Or.inl ⟨by rfl, fun w' hw' => ?_⟩) hS ?_
  · go_simp
  simp only [Act.put, List.setIfInBounds_toArray, List.set_cons_zero, List.set_cons_succ]
  refine H_do (i := 7) none (by kernel_rfl) rfl rfl (by rfl) (fun K hK => ?_)
  have c4 : wd.cell? ⟨B + 1, 4, none⟩ = some (.int .u8 ((0 : UInt8).toNat : Int)) := SD.out.cell (M.at4 no)
  have f4 : wd.frozen? ⟨B + 1, 4, none⟩ = false := SD.out.frozen 4
  have S3 := hid (SD.out.set 4 kd)
  have A3 := hid (show Adds w (wd.setCell ⟨B + 1, 4, none⟩ (.int .u8 (kd.toNat : Int))) from AD.out.setCell (fun h => absurd h (by have := HB0.out; simp only; omega)) _)
  go_simp
  clear c4 f4
  have hS2 : (fun (w' : World) => w'.heap[B]? = some (.cells #[.int .i64 (no : Int), .int .u8 (kd.toNat : Int), .slice a n cap] 92 (0, 0))) _ := Touch.at' (Touch.setCell (T := fun k => k = B + 1) (Touch.refl _ wd) (p := ⟨B + 1, 4, none⟩) (fun _ => rfl) (.int .u8 (kd.toNat : Int))) BD.out (by omega)
  refine hK (undef) _ hS2 ?_
  clear hK K hS; have hS := hS2; clear hS2
  simp only [Act.put]
  refine H_put (i := 8) 22 (v := .pointer (some ⟨B + 1, 5, none⟩)) rfl rfl (by kernel_rfl) (by kernel_rfl) (by kernel_rfl) (fun _ _ _ h => h) (Or.inl ⟨by rfl, fun w' hw' => ?_⟩) hS ?_
  · go_simp
  simp only [Act.put, List.setIfInBounds_toArray, List.set_cons_zero, List.set_cons_succ]
  refine H_do (i := 9) none (by kernel_rfl) rfl rfl (by rfl) (fun K hK => ?_)
  have c5 : (wd.setCell ⟨B + 1, 4, none⟩ (.int .u8 (kd.toNat : Int))).cell? ⟨B + 1, 5, none⟩ = some (.int .u8 ((0 : UInt8).toNat : Int)) := S3.out.cell (by rw [List.getElem?_set_ne (by decide)]; exact M.at5 no)
  have f5 : (wd.setCell ⟨B + 1, 4, none⟩ (.int .u8 (kd.toNat : Int))).frozen? ⟨B + 1, 5, none⟩ = false := S3.out.frozen 5
  have S4 := hid (S3.out.set 5 cb)
  have A4 := hid (show Adds w ((wd.setCell ⟨B + 1, 4, none⟩ (.int .u8 (kd.toNat : Int))).setCell ⟨B + 1, 5, none⟩ (.int .u8 (cb.toNat : Int))) from A3.out.setCell (fun h => absurd h (by have := HB0.out; simp only; omega)) _)
  have B4 := hid (show ((wd.setCell ⟨B + 1, 4, none⟩ (.int .u8 (kd.toNat : Int))).setCell ⟨B + 1, 5, none⟩ (.int .u8 (cb.toNat : Int))).heap[B]? = some (.cells #[.int .i64 (no : Int), .int .u8 (kd.toNat : Int), .slice a n cap] 92 (0, 0)) from Touch.at' (Touch.setCell (T := fun k => k = B + 1) (Touch.refl _ (wd.setCell ⟨B + 1, 4, none⟩ (.int .u8 (kd.toNat : Int)))) (p := ⟨B + 1, 5, none⟩) (fun _ => rfl) (.int .u8 (cb.toNat : Int))) hS (by omega))
  go_simp
  clear c5 f5
  have hS2 : (fun (w' : World) => w'.heap[B]? = some (.cells #[.int .i64 (no : Int), .int .u8 (kd.toNat : Int), .slice a n cap] 92 (0, 0))) _ := B4.out
  refine hK (undef) _ hS2 ?_
  clear hK K hS; have hS := hS2; clear hS2
  simp only [Act.put]
  refine wpAnyH_done (by kernel_rfl) ?_ _
  have S5 := hid (show Sec ((wd.setCell ⟨B + 1, 4, none⟩ (.int .u8 (kd.toNat : Int))).setCell ⟨B + 1, 5, none⟩ (.int .u8 (cb.toNat : Int))) (B + 1) (M.layK no kd cs 0) by
    have q := S4.out
    rw [M.lay1, HC.out.2.2.2.1, ← HC.out.2.1, M.lay2 _ _ _ (by rw [HC.out.2.1]; exact hn122)] at q
    rw [HC.out.2.2.2.1, ← HC.out.2.1]
    exact q)
  clear S3 S4 A3 SD AD BD hS
  generalize ((wd.setCell ⟨B + 1, 4, none⟩ (.int .u8 (kd.toNat : Int))).setCell ⟨B + 1, 5, none⟩ (.int .u8 (cb.toNat : Int))) = w5 at S5 A4 B4 ⊢
  have B5 := B4
  go_upto_region 4 with fail
  refine H_begin (S := fun (w' : World) => w'.heap[B]? = some (.cells #[.int .i64 (no : Int), .int .u8 (kd.toNat : Int), .slice a n cap] 92 (0, 0))) (by kernel_rfl) ?_
  have hS : (fun (w' : World) => w'.heap[B]? = some (.cells #[.int .i64 (no : Int), .int .u8 (kd.toNat : Int), .slice a n cap] 92 (0, 0))) w5.drew := B5.out
  refine H_put (i := 0) 23 (v := .slice (some ⟨B + 1, 8, none⟩) 244 248) rfl rfl (by kernel_rfl) (by kernel_rfl) (by kernel_rfl) (fun _ _ _ h => h) (Or.inl ⟨by rfl, fun w' hw' => ?_⟩) hS ?_
  · go_simp
  simp only [Act.put, List.setIfInBounds_toArray, List.set_cons_zero, List.set_cons_succ]
  refine H_put (i := 1) 24 (v := .pointer (some ⟨B, 2, none⟩)) rfl rfl (by kernel_rfl) (by kernel_rfl) (by kernel_rfl) (fun _ _ _ h => h) (Or.inl ⟨by rfl, fun w' hw' => ?_⟩) hS ?_
  · go_simp
  simp only [Act.put, List.setIfInBounds_toArray, List.set_cons_zero, List.set_cons_succ]
  refine H_put (i := 2) 25 (v := .slice a n cap) rfl rfl (by kernel_rfl) (by kernel_rfl) (by kernel_rfl) (fun _ _ _ h => h) (Or.inl ⟨by rfl, fun w' hw' => ?_⟩) hS ?_
  · have c : w'.cell? ⟨B, 2, none⟩ = some (.slice a n cap) := cellOf (hw') 2; go_simp
  simp only [Act.put, List.setIfInBounds_toArray, List.set_cons_zero, List.set_cons_succ]
  refine H_put (i := 3) 26 (v := .int .i64 (n : Int)) rfl rfl (by kernel_rfl) (by kernel_rfl) (by kernel_rfl) (fun _ _ _ h => h) (Or.inl ⟨by rfl, fun w' hw' => ?_⟩) hS ?_
  · go_simp
  simp only [Act.put, List.setIfInBounds_toArray, List.set_cons_zero, List.set_cons_succ]
  refine H_put (i := 4) 27 (v := .int .i64 (m : Int)) rfl rfl (by kernel_rfl) (by kernel_rfl) (by kernel_rfl) (fun _ _ _ h => h) (Or.inl ⟨by rfl, fun w' hw' => ?_⟩) hS ?_
  · go_simp
  simp only [Act.put, List.setIfInBounds_toArray, List.set_cons_zero, List.set_cons_succ]
  refine H_put (i := 5) 28 (v := .int .i64 (m8 : Int)) rfl rfl (by kernel_rfl) (by kernel_rfl) (by kernel_rfl) (fun _ _ _ h => h) (Or.inl ⟨by rfl, fun w' hw' => ?_⟩) hS ?_
  · go_simp
  simp only [Act.put, List.setIfInBounds_toArray, List.set_cons_zero, List.set_cons_succ]
  refine H_put (i := 6) 29 (v := .slice (some ⟨B + 1, m8, none⟩) (252 - m8) (256 - m8)) rfl rfl (by kernel_rfl) (by kernel_rfl) (by kernel_rfl) (fun _ _ _ h => h) (Or.inl ⟨by rfl, fun w' hw' => ?_⟩) hS ?_
  · go_simp
  simp only [Act.put, List.setIfInBounds_toArray, List.set_cons_zero, List.set_cons_succ]
  refine H_put (i := 7) 4 (v := .slice (some ⟨B + 1, 8, none⟩) 244 248) rfl rfl (by kernel_rfl) (by kernel_rfl) (by kernel_rfl) (fun _ _ _ h => h) (Or.inl ⟨by rfl, fun w' hw' => ?_⟩) hS ?_
  · go_simp
  simp only [Act.put, List.setIfInBounds_toArray, List.set_cons_zero, List.set_cons_succ]
  refine H_put (i := 8) 5 (v := .slice (some ⟨B + 1, m8, none⟩) (252 - m8) (256 - m8)) rfl rfl (by kernel_rfl) (by kernel_rfl) (by kernel_rfl) (fun _ _ _ h => h) (Or.inl ⟨by rfl, fun w' hw' => ?_⟩) hS ?_
  · go_simp
  simp only [Act.put, List.setIfInBounds_toArray, List.set_cons_zero, List.set_cons_succ]
  refine H_put (i := 9) 6 (v := .int .i64 0) rfl rfl (by kernel_rfl) (by kernel_rfl) (by kernel_rfl) (fun _ _ _ h => h) (Or.inl ⟨by rfl, fun w' hw' => ?_⟩) hS ?_
  · go_simp
  simp only [Act.put, List.setIfInBounds_toArray, List.set_cons_zero, List.set_cons_succ]
  refine wpAnyH_done (by kernel_rfl) ?_ _
  clear hwm hwm8 hslm hsl8 hsl4 hcb2 hwn
  clear hS
  have S6 := hid (show Sec w5.drew (B + 1) (M.layK no kd cs 0) from ⟨S5.out.len, S5.out.box⟩)
  have A6 := hid (show Adds w w5.drew from A4.out.drew)
  have B6 := hid (show w5.drew.heap[B]? = some (.cells #[.int .i64 (no : Int), .int .u8 (kd.toNat : Int), .slice a n cap] 92 (0, 0)) from B5.out)
  generalize w5.drew = w6 at S6 A6 B6 ⊢
  clear S5 A4 B4 B5 HA H1 HA1 hno
  have cB2 : w6.cell? ⟨B, 2, none⟩ = some (.slice a n cap) := by have q := cellOf B6.out 2; simpa using q
  go_wp2_with fail
  clear cB2
  go_loopw [6, 33] (fun ev i wr => ∃ (k E : Nat), k ≤ n ∧ i = .int .i64 (k : Int) ∧ ev = .int .i64 (E : Int) ∧ Hid (E = (cs.take k).flatten.length ∧ Sec wr (B + 1) (M.layK no kd cs k) ∧ wr.heap[B]? = some (.cells #[.int .i64 (no : Int), .int .u8 (kd.toNat : Int), .slice a n cap] 92 (0, 0)) ∧ Adds w wr)) (fun _ i _ => n - (intOf i).toNat)
  case atStart => exact ⟨0, 0, Nat.zero_le _, rfl, rfl, rfl, S6.out, B6.out, A6.out⟩
  case round =>
    obtain ⟨k, E, hk, rfl, rfl, HI⟩ := hrel
    have hEf : E ≤ cs.flatten.length := by rw [HI.out.1]; exact M.flat_le cs k
    by_cases hlt : k < n
    · obtain ⟨y, b, o, hy, hq, ha, hc⟩ := part_get HG.out (k := k) (by show k < hs.length; rw [HC.out.2.2.2.2.2]; exact hlt)
      have ha' : a = some ⟨b, o, none⟩ := ha
      subst ha'
      have hc' : wr.cell? ⟨b, o + k, none⟩ = some (.slice y.a y.bs.length y.cap) := below_adds HI.out.2.2.2 hc
      obtain ⟨yl, hyl⟩ : ∃ yl, yl = y.bs.length := ⟨_, rfl⟩
      have hcy : cs[k]? = some y.bs := by rw [HC.out.1, List.getElem?_map, hy]; rfl
      obtain ⟨E1, hE1⟩ : ∃ E1, E1 = E + yl := ⟨_, rfl⟩
      have hfn : (cs.take (k + 1)).flatten.length = E1 := by rw [M.flat_nx hcy, List.length_append, ← HI.out.1, hE1, hyl]
      have hE1f : E1 ≤ cs.flatten.length := by rw [← hfn]; exact M.flat_le cs (k + 1)
      have hEE : E + yl ≤ cs.flatten.length := by omega
      have HL3 := hid (show M.splice (M.layK no kd cs k) (m8 + E) y.bs = M.layM no kd cs k by
        have q := M.lay3 no kd HC.out.2.2.1 hcy
        rw [HC.out.2.1, ← HI.out.1, ← HC.out.2.2.2.2.1] at q
        exact q)
      rw [← hyl] at hc'
      have HY := hid (And.intro hyl.symm (And.intro hq (And.intro hcy (And.intro hfn hE1))))
      have hs5 := run_suf_at (B + 1) m8 (252 - m8) (256 - m8) E (by omega) (by omega)
      have hadd : (E : Int) + (yl : Int) = (E1 : Int) := by omega
      have hadd2 : wrap64 ((E : Int) + (yl : Int)) = (E1 : Int) := by rw [hadd]; simp [wrap64]; omega
      clear hy hq ha hc hcy hyl hfn hE1
      go_upto_region 9 with (refine copy_sec rfl _ _ rfl (B + 1) (m8 + E) (252 - m8 - E) (256 - m8 - E) rfl y.a y.bs y.cap yl HY.out.1 rfl (M.layK no kd cs k) _ HL3.out HI.out.2.1 ((HY.out.2.1.at_.at).adds HI.out.2.2.2) HY.out.2.1.non (by rw [HY.out.1]; omega) (by rw [HY.out.1]; omega) ?_; intro wq hSq hTq; have SQ := hid hSq; have AQ := hid (show Adds w wq from Adds.one HI.out.2.2.2 hTq (by have := HB0.out; omega)); have BR := hid (show wq.heap[B]? = some (.cells #[.int .i64 (no : Int), .int .u8 (kd.toNat : Int), .slice (some ⟨b, o, none⟩) n cap] 92 (0, 0)) from Touch.at' hTq HI.out.2.2.1 (by omega)); clear hSq hTq)
      obtain ⟨k2, hk2⟩ : ∃ k2, k2 = 2 * k := ⟨_, rfl⟩
      have hwk : IntKind.i64.wrap (2 * (k : Int)) = (k2 : Int) := by rw [IntKind.wrap_i64]; omega
      have hwE : IntKind.u64.wrap (E1 : Int) = (E1 : Int) := by show (E1 : Int) % 18446744073709551616 = _; omega
      have hs6 := run_suf_at (B + 1) 8 244 248 k2 (by omega) (by omega)
      have hk2n : k2 + 2 ≤ 244 := by omega
      have HL4 := hid (show M.splice (M.layM no kd cs k) (8 + k2) (M.fix E1 2) = M.layK no kd cs (k + 1) by
        have q := M.lay4 no kd HY.out.2.2.1
        rw [HY.out.2.2.2.1, ← hk2] at q
        exact q)
      clear hs5 hadd hadd2 hk2 hc' HL3
      refine H_begin (S := fun (w' : World) => w'.heap[B]? = some (.cells #[.int .i64 (no : Int), .int .u8 (kd.toNat : Int), .slice (some ⟨b, o, none⟩) n cap] 92 (0, 0))) (by kernel_rfl) ?_
      have hS : (fun (w' : World) => w'.heap[B]? = some (.cells #[.int .i64 (no : Int), .int .u8 (kd.toNat : Int), .slice (some ⟨b, o, none⟩) n cap] 92 (0, 0))) wq.drew := BR.out
      refine H_put (i := 0) 45 (v := .slice (some ⟨B + 1, 8, none⟩) 244 248) rfl rfl (by kernel_rfl) (by kernel_rfl) (by kernel_rfl) (fun _ _ _ h => h) (Or.inl ⟨by rfl, fun w' hw' => ?_⟩) hS ?_
      · go_simp
      simp only [Act.put, List.setIfInBounds_toArray, List.set_cons_zero, List.set_cons_succ]
      refine H_put (i := 1) 46 (v := .int .i64 (k : Int)) rfl rfl (by kernel_rfl) (by kernel_rfl) (by kernel_rfl) (fun _ _ _ h => h) (Or.inl ⟨by rfl, fun w' hw' => ?_⟩) hS ?_
      · go_simp
      simp only [Act.put, List.setIfInBounds_toArray, List.set_cons_zero, List.set_cons_succ]
      refine H_put (i := 2) 47 (v := .int .i64 (k2 : Int)) rfl rfl (by kernel_rfl) (by kernel_rfl) (by kernel_rfl) (fun _ _ _ h => h) (Or.inl ⟨by rfl, fun w' hw' => ?_⟩) hS ?_
      · go_simp
      simp only [Act.put, List.setIfInBounds_toArray, List.set_cons_zero, List.set_cons_succ]
      refine H_put (i := 3) 48 (v := .slice (some ⟨B + 1, 8 + k2, none⟩) (244 - k2) (248 - k2)) rfl rfl (by kernel_rfl) (by kernel_rfl) (by kernel_rfl) (fun _ _ _ h => h) (Or.inl ⟨by rfl, fun w' hw' => ?_⟩) hS ?_
      · go_simp
      simp only [Act.put, List.setIfInBounds_toArray, List.set_cons_zero, List.set_cons_succ]
      refine H_put (i := 4) 49 (v := .int .i64 (E1 : Int)) rfl rfl (by kernel_rfl) (by kernel_rfl) (by kernel_rfl) (fun _ _ _ h => h) (Or.inl ⟨by rfl, fun w' hw' => ?_⟩) hS ?_
      · go_simp
      simp only [Act.put, List.setIfInBounds_toArray, List.set_cons_zero, List.set_cons_succ]
      refine H_put (i := 5) 50 (v := .int .u64 (E1 : Int)) rfl rfl (by kernel_rfl) (by kernel_rfl) (by kernel_rfl) (fun _ _ _ h => h) (Or.inl ⟨by rfl, fun w' hw' => ?_⟩) hS ?_
      · go_simp
      simp only [Act.put, List.setIfInBounds_toArray, List.set_cons_zero, List.set_cons_succ]
      refine H_call (i := 6) 51 58 #[.slice none 0 0, .int .u64 (E1 : Int), .int .i64 2] (R := PFix wq.drew E1 2) (by kernel_rfl) rfl rfl (by rfl) (by go_simp) ?_ ?_
      · exact putFixedK E1 2 2 (by decide) wq.drew
      rintro e w7 ⟨a1, cap1, rfl, H7⟩
      have HA7 := hid (show Adds wq w7 from Touch.trans ((Touch.refl _ wq).drew) H7.out.2)
      have hS2 : (fun (w' : World) => w'.heap[B]? = some (.cells #[.int .i64 (no : Int), .int .u8 (kd.toNat : Int), .slice (some ⟨b, o, none⟩) n cap] 92 (0, 0))) _ := Touch.at' HA7.out BR.out id
      refine ⟨_, _, rfl, hS2, fun w' h => h, ?_⟩
      clear hS; have hS := hS2; clear hS2
      simp only [Act.put, List.setIfInBounds_toArray, List.set_cons_zero, List.set_cons_succ]
      refine H_do (i := 7) (some 52) (by kernel_rfl) rfl rfl (by rfl) (fun K hK => ?_)
      refine wp_copy_sec (.tmp 48) (.tmp 51) rfl (B + 1) (8 + k2) (244 - k2) (248 - k2) rfl a1 (M.fix E1 2) cap1 2 (M.len_fix _ _) rfl _ _ HL4.out (SQ.out.adds HA7.out) H7.out.1.at_ H7.out.1.non (by rw [M.len_fix]; omega) (by rw [M.len_fix]; omega) ?_
      intro w8 hS2 hT2
      have S8 := hid hS2
      have A8 := hid (show Adds w w8 from Adds.one (AQ.out.trans HA7.out) hT2 (by have := HB0.out; omega))
      have B8 := hid (show w8.heap[B]? = some (.cells #[.int .i64 (no : Int), .int .u8 (kd.toNat : Int), .slice (some ⟨b, o, none⟩) n cap] 92 (0, 0)) from Touch.at' hT2 hS (by omega))
      clear hS2 hT2
      have hS2 : (fun (w' : World) => w'.heap[B]? = some (.cells #[.int .i64 (no : Int), .int .u8 (kd.toNat : Int), .slice (some ⟨b, o, none⟩) n cap] 92 (0, 0))) _ := B8.out
      refine hK (.int .i64 ((2 : Nat) : Int)) _ hS2 ?_
      clear hK K hS; have hS := hS2; clear hS2
      simp only [Act.put, List.setIfInBounds_toArray, List.set_cons_zero, List.set_cons_succ]
      refine wpAnyH_done (by kernel_rfl) ?_ _
      clear hs6 hwk hwE
      go_wp2_with fail
      go_roundw
      case rel => exact ⟨k + 1, E1, by omega, by go_num, by first | rfl | go_num, HY.out.2.2.2.1.symm, S8.out, B8.out, A8.out⟩
      case measure => simp [intOf]; omega
    · obtain rfl : n = k := by omega
      have HL5 := hid (show M.splice (M.layK no kd cs n) 6 (M.fix E 2) = M.pbytes ⟨no, kd, cs⟩ by
        have q := M.lay5 no kd HC.out.2.2.1
        rw [HC.out.2.1] at q
        have e : E = cs.flatten.length := by rw [HI.out.1, List.take_of_length_le (by rw [HC.out.2.1]; exact Nat.le_refl _)]
        rw [e]; exact q)
      have hsl6 := sliceA_lh (B + 1) 6 8 (by decide) (by decide) (by decide)
      have hwE : IntKind.u64.wrap (E : Int) = (E : Int) := by show (E : Int) % 18446744073709551616 = _; omega
      have hsa := slice43a (B + 1)
      go_upto_region 11 with fail
      refine H_begin (S := fun (w' : World) => w'.heap[B]? = some (.cells #[.int .i64 (no : Int), .int .u8 (kd.toNat : Int), .slice a n cap] 92 (0, 0))) (by kernel_rfl) ?_
      have hS : (fun (w' : World) => w'.heap[B]? = some (.cells #[.int .i64 (no : Int), .int .u8 (kd.toNat : Int), .slice a n cap] 92 (0, 0))) wr.drew := HI.out.2.2.1
      refine H_put (i := 0) 54 (v := .slice (some ⟨B + 1, 6, none⟩) 2 250) rfl rfl (by kernel_rfl) (by kernel_rfl) (by kernel_rfl) (fun _ _ _ h => h) (Or.inl ⟨by rfl, fun w' hw' => ?_⟩) hS ?_
      · go_simp
      simp only [Act.put, List.setIfInBounds_toArray, List.set_cons_zero, List.set_cons_succ]
      refine H_put (i := 1) 55 (v := .int .i64 (E : Int)) rfl rfl (by kernel_rfl) (by kernel_rfl) (by kernel_rfl) (fun _ _ _ h => h) (Or.inl ⟨by rfl, fun w' hw' => ?_⟩) hS ?_
      · go_simp
      simp only [Act.put, List.setIfInBounds_toArray, List.set_cons_zero, List.set_cons_succ]
      refine H_put (i := 2) 56 (v := .int .u64 (E : Int)) rfl rfl (by kernel_rfl) (by kernel_rfl) (by kernel_rfl) (fun _ _ _ h => h) (Or.inl ⟨by rfl, fun w' hw' => ?_⟩) hS ?_
      · go_simp
      simp only [Act.put, List.setIfInBounds_toArray, List.set_cons_zero, List.set_cons_succ]
      refine H_call (i := 3) 57 58 #[.slice none 0 0, .int .u64 (E : Int), .int .i64 2] (R := PFix wr.drew E 2) (by kernel_rfl) rfl rfl (by rfl) (by go_simp) ?_ ?_
      · exact putFixedK E 2 2 (by decide) wr.drew
      rintro e w7 ⟨a1, cap1, rfl, H7⟩
      have HA7 := hid (show Adds wr w7 from Touch.trans ((Touch.refl _ wr).drew) H7.out.2)
      have hS2 : (fun (w' : World) => w'.heap[B]? = some (.cells #[.int .i64 (no : Int), .int .u8 (kd.toNat : Int), .slice a n cap] 92 (0, 0))) _ := Touch.at' HA7.out HI.out.2.2.1 id
      refine ⟨_, _, rfl, hS2, fun w' h => h, ?_⟩
      clear hS; have hS := hS2; clear hS2
      simp only [Act.put, List.setIfInBounds_toArray, List.set_cons_zero, List.set_cons_succ]
      refine H_do (i := 4) (some 58) (by kernel_rfl) rfl rfl (by rfl) (fun K hK => ?_)
      refine wp_copy_sec (.tmp 54) (.tmp 57) rfl (B + 1) 6 2 250 rfl a1 (M.fix E 2) cap1 2 (M.len_fix _ _) rfl _ _ HL5.out (HI.out.2.1.adds HA7.out) H7.out.1.at_ H7.out.1.non (by rw [M.len_fix]; decide) (by rw [M.len_fix]; decide) ?_
      intro w8 hS2 hT2
      have S8 := hid hS2
      have A8 := hid (show Adds w w8 from Adds.one (HI.out.2.2.2.trans HA7.out) hT2 (by have := HB0.out; omega))
      have B8 := hid (show w8.heap[B]? = some (.cells #[.int .i64 (no : Int), .int .u8 (kd.toNat : Int), .slice a n cap] 92 (0, 0)) from Touch.at' hT2 hS (by omega))
      clear hS2 hT2
      have hS2 : (fun (w' : World) => w'.heap[B]? = some (.cells #[.int .i64 (no : Int), .int .u8 (kd.toNat : Int), .slice a n cap] 92 (0, 0))) _ := B8.out
      refine hK (.int .i64 ((2 : Nat) : Int)) _ hS2 ?_
      clear hK K hS; have hS := hS2; clear hS2
      simp only [Act.put, List.setIfInBounds_toArray, List.set_cons_zero, List.set_cons_succ]
      refine wpAnyH_done (by kernel_rfl) ?_ _
      go_wp2_with fail
      go_ret
      exact ⟨B + 1, rfl, by have := HB0.out; omega, S8.out, A8.out⟩
end Go.Proofs.YtokbiekdompaoaaDoor

/- Lists of slices, one behind the other: slices.Concat of lists. -/
namespace Go.Proofs.YtokbiekdompaoaaDoor
open Go.RowKit

set_option maxRecDepth 100000 in
theorem append_bm {w : World} {ops : Array Oper} {rest : List Oper} {o : Oper} {act : Act} {Q : Exit → Act → World → Prop} {Q' : Nat → Prop} (hgd : o.guard = none) (s x : Operand)
    (ho : o.op = .call { callee := .builtin .append, args := #[s, x], argTypes := #[81, 81] }) (base : Nat) (v : Value) (n : Nat) (xs : List Value) (hs : act.eval s = v) (hown : w.ownsRow base 55 1 v n xs)
    (a : Option Addr) (m cap : Nat) (news : List Value) (hm : news.length = m) (hx : act.eval x = .slice a m cap) (hcap : a = none → cap = 0) (hA : CQ w Q' a news) (h1 : ∀ u ∈ news, u.oneCell' = true) (hlen : n + m ≤ 10000000) (hbase : base ≤ w.heap.size)
    (h : ∀ v' w', w'.ownsRow base 55 1 v' (n + m) (xs ++ news) → w.grownBy w' v.ownBlock → wpList Tryd.prog ops Q rest (act.put o.dst v') w') : wpList Tryd.prog ops Q (o :: rest) act w := by
  obtain ⟨i0, hi, hz0, hz1, hz2⟩ := infoB
  cases a with
  | none =>
    obtain rfl := hcap rfl
    obtain rfl : news = [] := by
      cases news with
      | nil => rfl
      | cons u l => obtain ⟨b, o', e, _⟩ := hA 0 u rfl; cases e
    obtain rfl : m = 0 := by rw [← hm]; rfl
    exact wpList_append_own_none hgd s x 81 ho base 55 i0 1 Tryd.underlying81 hi v n xs hs hown hx (h v w (by simpa using hown) ⟨rfl, rfl, rfl, Nat.le_refl _, fun _ _ _ => rfl⟩)
  | some ad =>
    refine wpList_append_own_at _ hgd s x 81 ho base 55 i0 (.slice none 0 0) 1 24 Tryd.underlying81 hi hz0 hz1 hz2 rfl (by decide) v n xs hs hown ad m cap news hx (by omega) ?_ h1 (by unfold maxLen; omega) (by omega) hbase (fun v' w' g1 g2 _ _ => h v' w' g1 g2)
    intro j y hj
    obtain ⟨b, o', e, _, hc⟩ := hA j y hj
    obtain rfl : ad = ⟨b, o', none⟩ := by simpa using e
    rw [Addr.add_mid]; exact hc
set_option maxRecDepth 100000 in
theorem one_PV (l : List Part) : ∀ u ∈ l.map PV, u.oneCell' = true := by
  intro u hu
  obtain ⟨x, _, rfl⟩ := List.mem_map.1 hu
  rfl
/-- A new list of slices. -/
def POwnB (w : World) (hs : List Part) (e : Ending) (w' : World) : Prop := ∃ v, e = .returned v ∧ w'.ownsRow w.heap.size 55 1 v hs.length (hs.map PV) ∧ Adds w w'
set_option maxRecDepth 100000 in
theorem zeros_sizeB (n : Nat) : (Builtin.zeroCells #[Value.slice none 0 0] n).size = n := by simp [Builtin.zeroCells]
def flatB (L : List Pl) : List Part := (L.map (·.l)).flatten
set_option maxRecDepth 100000 in
theorem flatB_next {L : List Pl} {k : Nat} {x : Pl} (h : L[k]? = some x) : flatB (L.take (k + 1)) = flatB (L.take k) ++ x.l := by
  unfold flatB
  rw [List.take_add_one, h]; simp
set_option maxRecDepth 100000 in
theorem flatB_len (L : List Pl) (k : Nat) : (flatB (L.take k)).length ≤ (flatB L).length := by
  have : flatB L = flatB (L.take k) ++ flatB (L.drop k) := by
    unfold flatB
    rw [← List.flatten_append, ← List.map_append, List.take_append_drop]
  rw [this, List.length_append]; omega
/-- Lists that lie in a row. -/
def GParts (w : World) (g : Nat) (L : List Pl) : Prop := ∀ j x, L[j]? = some x → w.cell? ⟨g, j, none⟩ = some (.slice x.a x.l.length x.cap) ∧ GQ w (fun _ => True) x
set_option maxRecDepth 100000 in
theorem GParts.adds {w w' : World} {g : Nat} {L : List Pl} (h : GParts w g L) (hA : Adds w w') : GParts w' g L := by
  intro j x hj
  obtain ⟨h1, h2⟩ := h j x hj
  exact ⟨below_adds hA h1, h2.adds hA⟩
end Go.Proofs.YtokbiekdompaoaaDoor

/- A page of cells, or none: page.Fill, page.New. -/
namespace Go.Proofs.YtokbiekdompaoaaDoor
open Go.RowKit

/-- Bytes, and why none. -/
def PTold (w : World) (cs : List UInt8) (er : Nat) (e : Ending) (w' : World) : Prop := ∃ a cap, e = .returned (.tuple #[.slice a cs.length cap, .int .i64 (er : Int)]) ∧ Hid (At w' a cs ∧ cs.length ≤ cap ∧ ((a = none → cap = 0) ∧ ∀ b o, a = some ⟨b, o, none⟩ → w.heap.size ≤ b) ∧ Adds w w')
set_option maxRecDepth 100000 in
theorem PTold.nil {w w' : World} {cs : List UInt8} {er : Nat} {z : Int} (hA : Adds w w') (h1 : cs = []) (h2 : (er : Int) = z) : PTold w cs er (.returned (.tuple #[.slice none 0 0, .int .i64 z])) w' := by
  subst h1
  subst h2
  exact ⟨none, 0, rfl, At.nil _ _, Nat.le_refl _, ⟨fun _ => rfl, fun _ _ e => (by cases e)⟩, hA⟩
set_option maxRecDepth 100000 in
theorem fillE_inv {no : Int} {kd : UInt8} {l : List (List UInt8)} (h : no < 0 ∨ 2147483647 < no ∨ kd = 0) : M.fillP no kd l = [] ∧ M.fillE no kd l = 2 := by
  rw [M.fillP, M.fillE, if_pos h, if_pos h]; exact ⟨rfl, rfl⟩
set_option maxRecDepth 100000 in
set_option maxHeartbeats 1000000 in
theorem gfill_any (no : Int) (kd : UInt8) (a : Option Addr) (hs : List Part) (n cap : Nat) (hn : hs.length = n) (w : World) (h : GQ w (fun _ => True) ⟨a, cap, hs⟩) (hb : ∀ x ∈ hs, x.bs.length ≤ 1000000000000000) (hl : n ≤ 1000000000000000) :
    Calls Tryd.prog 34 #[.int .i64 no, .int .u8 (kd.toNat : Int), .slice a n cap] w (PTold w (M.fillP no kd (hs.map (·.bs))) (M.fillE no kd (hs.map (·.bs)))) := by
  have HG := hid h
  have HL := hid (gleft_any a hs n cap hn w h hb hl)
  have HN := hid hn
  clear h hb hn
  by_cases h1 : no < 0
  · have HE := hid (fillE_inv (l := hs.map (·.bs)) (kd := kd) (.inl h1))
    go_enter Tryd.func34, Tryd.ntmps34
    go_wp2_with fail
    go_ret2
    exact PTold.nil (Touch.refl _ _) HE.out.1 (by rw [HE.out.2]; rfl)
  · by_cases h2 : 2147483647 < no
    · have HE := hid (fillE_inv (l := hs.map (·.bs)) (kd := kd) (.inr (.inl h2)))
      go_enter Tryd.func34, Tryd.ntmps34
      go_wp2_with fail
      go_ret2
      exact PTold.nil (Touch.refl _ _) HE.out.1 (by rw [HE.out.2]; rfl)
    · by_cases h3 : kd = 0
      · have HE := hid (fillE_inv (l := hs.map (·.bs)) (no := no) (.inr (.inr h3)))
        have h3' : (kd.toNat : Int) = 0 := by rw [h3]; rfl
        clear h3
        go_enter Tryd.func34, Tryd.ntmps34
        go_wp2_with fail
        go_ret2
        exact PTold.nil (Touch.refl _ _) HE.out.1 (by rw [HE.out.2]; rfl)
      · have h3' : ¬ (kd.toNat : Int) = 0 := fun e => h3 (UInt8.toNat_inj.1 (by simpa using (show kd.toNat = 0 by omega)))
        have hnn : ¬ (no < 0 ∨ 2147483647 < no ∨ kd = 0) := fun c => by rcases c with c | c | c; exact h1 c; exact h2 c; exact h3 c
        by_cases h4 : 244 < M.taken (hs.map (·.bs))
        · have HE := hid (show M.fillP no kd (hs.map (·.bs)) = [] ∧ M.fillE no kd (hs.map (·.bs)) = 32 by rw [M.fillP, M.fillE, if_neg hnn, if_neg hnn, if_pos h4, if_pos h4]; exact ⟨rfl, rfl⟩)
          clear hnn h3
          go_enter Tryd.func34, Tryd.ntmps34
          go_wp2_with (go_at_call 46; refine HL.out.mono ?_; rintro e w1 ⟨z, rfl, hw, hz⟩; rw [hw]; clear hw; have hz2 := hz.out.2 h4; clear hz)
          go_ret2
          exact PTold.nil (Touch.refl _ _) HE.out.1 (by rw [HE.out.2]; rfl)
        · obtain ⟨nn, rfl⟩ : ∃ nn : Nat, no = (nn : Int) := ⟨no.toNat, by omega⟩
          have HE := hid (show M.fillP (nn : Int) kd (hs.map (·.bs)) = M.pbytes ⟨nn, kd, hs.map (·.bs)⟩ ∧ M.fillE (nn : Int) kd (hs.map (·.bs)) = 0 by rw [M.fillP, M.fillE, if_neg hnn, if_neg hnn, if_neg h4, if_neg h4]; exact ⟨rfl, rfl⟩)
          have HT := hid h4
          have h1b : decide ((nn : Int) < 0) = false := by simp
          have h3b : ((kd.toNat : Int) == 0) = false := by simpa using h3'
          clear hnn h3 h1
          go_enter Tryd.func34, Tryd.ntmps34
          go_wp2_with (first
            | (go_at_call 46; refine HL.out.mono ?_; rintro e w1 ⟨z, rfl, hw, hz⟩; rw [hw]; clear hw; have hz2 : ¬ z < 0 := by (have q := hz.out.1 (by omega); omega)
               clear hz)
            | (go_at_call 47; refine (gpage_any nn kd a hs n cap HN.out _ (HG.out.adds ((Touch.refl _ w).alloc _)) (by omega) (by have := HT.out; omega)).mono ?_; rintro e w2 ⟨g, rfl, H2⟩))
          go_ret2
          have hA : Adds w w2 := ((Touch.refl _ w).alloc _).trans H2.out.2.2
          have hlen := M.len_pbytes (p := ⟨nn, kd, hs.map (·.bs)⟩) (by have q := HT.out; show M.taken (hs.map (·.bs)) ≤ 244; omega)
          refine ⟨some ⟨g, 0, none⟩, 256, by rw [HE.out.1, HE.out.2, hlen]; rfl, by rw [HE.out.1]; exact H2.out.2.1.at, by rw [HE.out.1, hlen]; exact Nat.le_refl _, ⟨fun e => (by cases e), fun b o e => by cases e; have h := H2.out.1; simp at h; omega⟩, hA⟩
end Go.Proofs.YtokbiekdompaoaaDoor
