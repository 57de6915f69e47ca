/- Texts put together: NParse, NPMath, NBin, NFind, NBytes, NSame. -/
import Derived.Test.YtplppnngmlljnaaQ13
import Derived.Test.YtplppnngmlljnaaQ14
import Derived.Test.YtplppnngmlljnaaQ05
import Derived.Deep.RegionWith
import Derived.Deep.QuietTactic
import Derived.BigQuiet
/- A page's node. -/
namespace Go.Proofs.Ytplppnngmlljnaa
open Go.RowKit

theorem pkid_lt (c : List UInt8) : (N.pkid c : Int) < 4294967296 := by
  have h : (M.takeR (M.clamp 4) (N.pst1 c)).1.length ≤ 4 := M.takeR_len _ _
  have q : M.unfix (M.takeR (M.clamp 4) (N.pst1 c)).1 < 256 ^ (M.takeR (M.clamp 4) (N.pst1 c)).1.length := (M.fix_unfix _ _ rfl).2
  have q2 : 256 ^ (M.takeR (M.clamp 4) (N.pst1 c)).1.length ≤ 256 ^ 4 := Nat.pow_le_pow_right (by decide) h
  show ((M.unfix (M.takeR (M.clamp 4) (N.pst1 c)).1 : Nat) : Int) < _
  omega
theorem pkid_wrap (c : List UInt8) : IntKind.i64.wrap (N.pkid c : Int) = (N.pkid c : Int) := by
  have := pkid_lt c
  rw [IntKind.wrap_i64]
  omega
theorem textR_le (z : Int) (hz : 0 ≤ z) (s : M.St) : ((M.textR z s).1.length : Int) ≤ z := by
  unfold M.textR
  have h1 := M.takeR_len (M.uintR (M.atLeast0 z) s).1 (M.uintR (M.atLeast0 z) s).2
  have h2 : (M.uintR (M.atLeast0 z) s).1 ≤ M.atLeast0 z := by
    unfold M.uintR
    split
    · exact Nat.zero_le _
    · split
      · exact Nat.zero_le _
      · split
        · exact Nat.zero_le _
        · rename_i h; exact Nat.le_of_not_lt h
  have h3 : (M.atLeast0 z : Int) ≤ z := by unfold M.atLeast0; split <;> omega
  omega
theorem pnode_snoc (leaf : Bool) (l : List (List UInt8)) (c : List UInt8) : N.pnode leaf (l ++ [c]) = ⟨leaf, (N.pnode leaf l).keys ++ [N.pkey c], if leaf then (N.pnode leaf l).vals ++ [N.pval c] else [], if leaf then [] else (N.pnode leaf l).kids ++ [(N.pkid c : Int)]⟩ := by
  cases leaf <;> simp [N.pnode]
theorem pnode_bd (leaf : Bool) (l : List (List UInt8)) (hl : l.length ≤ 122) : N.Bd 1000 (N.pnode leaf l) := by
  refine ⟨by simp [N.pnode]; omega, ?_, ?_, fun b hb => ?_, fun b hb => ?_⟩
  · cases leaf <;> simp [N.pnode] <;> omega
  · cases leaf <;> simp [N.pnode] <;> omega
  · obtain ⟨c, _, rfl⟩ := List.mem_map.1 hb
    have := textR_le 40 (by decide) ⟨0, c⟩
    show (M.textR 40 ⟨0, c⟩).1.length ≤ 1000
    omega
  · cases leaf with
    | false => cases hb
    | true =>
      obtain ⟨c, _, rfl⟩ := List.mem_map.1 (show b ∈ l.map N.pval from hb)
      have := textR_le 49 (by decide) (N.pst1 c)
      show (M.textR 49 (N.pst1 c)).1.length ≤ 1000
      omega
theorem str_pt (bs : List UInt8) (w : World) : ∃ cap w1, (convert 9 30 (.string ⟨bs.toArray⟩)).run Try.prog w = .ok (.slice (some ⟨w.heap.size, 0, none⟩) bs.length cap) w1 ∧ PT w1 w.heap.size ⟨some ⟨w.heap.size, 0, none⟩, bs, cap⟩ ∧ Adds w w1 := by
  have q := run_bytes_of_string (P := Try.prog) w 9 30 5 ⟨bs.toArray⟩ Try.underlying9 Try.underlying30 Try.underlying5
  have hg : (w.drew.alloc (Obj.cells (bytesRow ⟨bs.toArray⟩ (grownCap w (ByteArray.size ⟨bs.toArray⟩) 0 5)) 5 ((bytesRow ⟨bs.toArray⟩ (grownCap w (ByteArray.size ⟨bs.toArray⟩) 0 5)).size, (bytesRow ⟨bs.toArray⟩ (grownCap w (ByteArray.size ⟨bs.toArray⟩) 0 5)).size + 1))).heap[w.heap.size]? = some _ := heap_alloc_new w.drew _
  have key : ∀ j c, bs[j]? = some c → (w.drew.alloc (Obj.cells (bytesRow ⟨bs.toArray⟩ (grownCap w (ByteArray.size ⟨bs.toArray⟩) 0 5)) 5 ((bytesRow ⟨bs.toArray⟩ (grownCap w (ByteArray.size ⟨bs.toArray⟩) 0 5)).size, (bytesRow ⟨bs.toArray⟩ (grownCap w (ByteArray.size ⟨bs.toArray⟩) 0 5)).size + 1))).cell? ⟨w.heap.size, 0 + j, none⟩ = some (.int .u8 (c.toNat : Int)) := fun j c hj => by
    have hlt : j < bs.length := (List.getElem?_eq_some_iff.1 hj).1
    rw [cell_of_row _ _ _ _ _ _ hg, Nat.zero_add, bytesRow_at _ _ j (by simpa using hlt)]
    rw [List.getElem?_eq_getElem hlt] at hj
    obtain rfl : bs[j] = c := by simpa using hj
    rfl
  refine ⟨_, _, q, ⟨⟨fun j u hj => ?_, fun e => by cases e⟩, fun j hj b o e => ?_⟩, (Touch.refl _ w).drew.alloc _⟩
  · rw [S_get] at hj
    obtain ⟨c, hc, rfl⟩ := Option.map_eq_some_iff.1 hj
    exact ⟨_, _, rfl, ⟨Nat.le_refl _, _, _, hg⟩, key j c hc⟩
  · cases e
    have hc := key j (bs[j]'hj) (List.getElem?_eq_getElem hj)
    rw [cell_of_row _ _ _ _ _ _ hg] at hc
    have hlt := (Array.getElem?_eq_some_iff.1 hc).1
    unfold World.frozen?
    rw [hg]
    simp only [Bool.and_eq_false_iff, decide_eq_false_iff_not]
    left
    omega
set_option maxRecDepth 100000 in
set_option maxHeartbeats 16000000 in
theorem nparse_leaf (a : Option Addr) (bs : List UInt8) (n cap : Nat) (w : World) (hn : bs.length = n) (hc : n ≤ cap) (hA : At w a bs) (hk : M.kindP bs = 5) : Calls Try.prog 22 #[.slice a n cap] w (PTnode w (N.parse bs)) := by
  obtain ⟨cl, hcl⟩ : ∃ cl, cl = M.cellsP bs := ⟨_, rfl⟩
  obtain ⟨hc244, hc122⟩ : (∀ c ∈ M.cellsP bs, c.length ≤ 244) ∧ (M.cellsP bs).length ≤ 122 := by
    cases hR : M.readP bs with
    | none => rw [(M.none_all hR).2.2.1]; exact ⟨fun c h => (by cases h), by decide⟩
    | some p => rw [(M.some_all hR).2.2.1]; exact ⟨fun c h => cell_len (M.read_ok hR).1 h, (M.read_ok hR).1.count.1⟩
  rw [← hcl] at hc244 hc122
  have HNo := hid (show cl.any (N.pbad true) = true → N.parse bs = (N.nil, 22) from fun h => by
    unfold N.parse
    rw [hk, ← hcl, if_neg (by decide), show ((5 : UInt8) == 5) = true from rfl, if_pos h])
  have HYes := hid (show cl.any (N.pbad true) = false → N.parse bs = N.told (N.pnode true cl) from fun h => by
    unfold N.parse
    rw [hk, ← hcl, if_neg (by decide), show ((5 : UInt8) == 5) = true from rfl, if_neg (by rw [h]; decide)])
  obtain ⟨N1, hN1⟩ : ∃ N1, N1 = w.heap.size := ⟨_, rfl⟩
  obtain ⟨w1, hw1⟩ : ∃ w1, w1 = w.alloc NZ := ⟨_, rfl⟩
  have HA1 := hid (show Adds w w1 by rw [hw1]; exact (Touch.refl _ w).alloc _)
  have HB1 := hid (show w1.heap[N1]? = some NZ by rw [hw1, hN1]; exact heap_alloc_new w _)
  have HL := hid (show w.heap.size ≤ N1 by omega)
  have HK := hid (show Calls Try.prog 44 #[.slice a n cap] w1 (Adding (.int .u8 5) w1) by
    have q := gkind_any a bs n cap w1 hn hc (hA.adds HA1.out)
    rw [hk] at q
    exact q)
  obtain ⟨cn, hcn⟩ : ∃ cn, cn = cl.length := ⟨_, rfl⟩
  have HCe := hid (fun (W : World) (hW : Adds w W) => show Calls Try.prog 45 #[.slice a n cap] W (fun e w' => ∃ ca cc, ∃ hs : List Part, e = .returned (.slice ca cn cc) ∧ Hid (hs.map (·.bs) = cl ∧ GQ w' (fun k => W.heap.size ≤ k) ⟨ca, cc, hs⟩ ∧ Adds W w' ∧ cn ≤ cc)) by
    rw [hcn, hcl]; exact gcells_any a bs n cap W hn hc (hA.adds hW))
  have hcn9 : cn ≤ 122 := by rw [hcn]; exact hc122
  have HCn := hid hcn
  have H244 := hid hc244
  clear hn hc hA hk hcl hc244 hc122 hcn
  go_enter Try.func22, Try.ntmps22
  go_upto_region 1 with fail
  rw [← hw1, ← hN1]
  clear hw1 hN1
  go_upto_region 5 with (first
    | (go_at_call 44; refine HK.out.mono ?_; rintro e w2 ⟨rfl, hA2⟩; have H2 := hid hA2; clear hA2)
    | (refine wpList_store_row rfl 28 _ _ rfl w2.heap.size #[.bool true, .slice .none 0 0, .slice .none 0 0, .slice .none 0 0] rfl rfl 28 _ (heap_alloc_new w2 NZ) (info4 _ _ _ _) rfl (one4 _ _ _ _ _ _ _ _ _ _) ?_))
  obtain ⟨N5, hN5⟩ : ∃ N5, N5 = w2.heap.size := ⟨_, rfl⟩
  obtain ⟨w3, hw3⟩ : ∃ w3, w3 = (w2.alloc NZ).setRow w2.heap.size #[.bool true, .slice .none 0 0, .slice .none 0 0, .slice .none 0 0] := ⟨_, rfl⟩
  have hlt1 : N1 < w2.heap.size := Nat.lt_of_lt_of_le (Array.getElem?_eq_some_iff.1 HB1.out).1 H2.out.size
  have HB5 := hid (show w3.heap[N5]? = some (.cells #[.bool true, .slice .none 0 0, .slice .none 0 0, .slice .none 0 0] 28 (0, 0)) by rw [hw3, hN5]; exact setRow_heap (w2.alloc NZ) w2.heap.size _ _ 28 _ (heap_alloc_new w2 NZ))
  have HA3 := hid (show Adds w w3 by rw [hw3]; exact ((HA1.out.trans H2.out).alloc NZ).then (touch_row (w2.alloc NZ) w2.heap.size _) (fun j hj e => by have := (HA1.out.trans H2.out).size; omega))
  have HB13 := hid (show w3.heap[N1]? = some NZ by
    rw [hw3, (touch_row (w2.alloc NZ) w2.heap.size _).block N1 (by simp; omega) (by omega)]
    exact box_adds HB1.out (H2.out.alloc NZ))
  have HN5 := hid (show w.heap.size ≤ N5 by rw [hN5]; exact (HA1.out.trans H2.out).size)
  have HN15 := hid (show ¬ N1 = N5 by omega)
  have HN5w := hid (show N5 < w3.heap.size from (Array.getElem?_eq_some_iff.1 HB5.out).1)
  have HCe3 := hid (HCe.out w3 HA3.out)
  rw [← hw3, ← hN5]
  clear hw3 hN5 hlt1
  go_wp2_with (go_at_call 45; refine HCe3.out.mono ?_; rintro e wc ⟨ca, cc, hs, rfl, Hc⟩)
  have HAc := hid (HA3.out.trans Hc.out.2.2.1)
  have HB1c := hid (box_adds HB13.out Hc.out.2.2.1)
  have HPz0 := hid (show Pz wc wc N5 true ⟨true, none, 0, [], ⟨none, 0, []⟩, none, 0, []⟩ from
    ⟨Touch.refl _ _, ⟨World.ownsRow_nil _ _ _ _, World.ownsRow_nil _ _ _ _, fun p hp => (by cases hp), World.ownsRow_nil _ _ _ _⟩, fun g hg => (by cases hg), fun g hg => (by cases hg), fun g hg => (by cases hg), box_adds HB5.out Hc.out.2.2.1, rfl⟩)
  have HLh := hid (show hs.length = cn by rw [HCn.out, ← Hc.out.1, List.length_map])
  go_loopw [24] (fun t wx => ∃ (k : Nat) (ka : Option Addr) (kc : Nat) (ks : List (List UInt8)) (va : Option Addr) (vc : Nat) (hs2 : List Part) (ia : Option Addr) (ic : Nat) (zs : List Int), k ≤ cn ∧ t = .int .i64 (k : Int) ∧ Hid (Pz wc wx N5 true ⟨true, ka, kc, ks, ⟨va, vc, hs2⟩, ia, ic, zs⟩ ∧ NM.nd ⟨true, ka, kc, ks, ⟨va, vc, hs2⟩, ia, ic, zs⟩ = N.pnode true (cl.take k) ∧ ∀ c ∈ cl.take k, N.pbad true c = false)) (fun t _ => cn - (intOf t).toNat)
  case atStart => exact ⟨0, none, 0, [], none, 0, [], none, 0, [], Nat.zero_le _, rfl, HPz0.out, rfl, fun c hc => by cases hc⟩
  case round =>
    obtain ⟨k, ka, kc, ks, va, vc, hs2, ia, ic, zs, hk, rfl, HI⟩ := hrel
    by_cases hlt : k < cn
    · have hlz : (k : Int) < (cn : Int) := by omega
      have hkh : k < hs.length := by rw [HLh.out]; exact hlt
      have hkc : k < cl.length := by rw [← HCn.out]; exact hlt
      have HGq := (Hc.out.2.1.touch HI.out.1.touch (fun j hj c => by have := HN5w.out; omega))
      obtain ⟨b, o, ea, hcell⟩ := HGq.cell hkh
      obtain ⟨y, hy⟩ : ∃ y, y = hs[k] := ⟨_, rfl⟩
      obtain ⟨c, hcE⟩ : ∃ c, c = cl[k] := ⟨_, rfl⟩
      have hyc : y.bs = c := by
        have q : (hs.map (·.bs))[k]? = cl[k]? := by rw [Hc.out.1]
        rw [List.getElem?_map, List.getElem?_eq_getElem hkh, List.getElem?_eq_getElem hkc] at q
        rw [hy, hcE]; exact Option.some.inj q
      have HMem := hid (show c ∈ cl by rw [hcE]; exact List.getElem_mem hkc)
      have HCk := hid (show cl.take (k + 1) = cl.take k ++ [c] by rw [List.take_add_one, List.getElem?_eq_getElem hkc, hcE]; rfl)
      have hyq := HGq.all hs[k] (List.getElem_mem hkh)
      rw [← hy] at hcell hyq
      obtain ⟨m, hm⟩ : ∃ m, m = y.bs.length := ⟨_, rfl⟩
      have hm9 : m ≤ 244 := by rw [hm, hyc]; exact H244.out c HMem.out
      have hcell' : wr.cell? ⟨b, o + k, none⟩ = some (.slice y.a m y.cap) := by rw [hm]; exact hcell
      have HRd := hid (show Calls Try.prog 46 #[.slice y.a m y.cap] wr (PRead wr c) by
        rw [hm, ← hyc]; exact read_any y.a y.bs y.cap wr (by omega) hyq.non hyq.at_.at)
      have HLn := hid (show ks.length ≤ 1000000 ∧ hs2.length ≤ 1000000 ∧ zs.length ≤ 1000000 by
        have q := HI.out.2.1
        have hkt : (cl.take k).length ≤ 122 := by rw [List.length_take]; omega
        have e1 : ks = (cl.take k).map N.pkey := congrArg N.Nd.keys q
        have e2 : hs2.map (·.bs) = (N.pnode true (cl.take k)).vals := congrArg N.Nd.vals q
        have e3 : zs = (N.pnode true (cl.take k)).kids := congrArg N.Nd.kids q
        have b2 : (N.pnode true (cl.take k)).vals.length ≤ 122 := by unfold N.pnode; simp; try omega
        have b3 : (N.pnode true (cl.take k)).kids.length ≤ 122 := by unfold N.pnode; simp; try omega
        refine ⟨by rw [e1, List.length_map]; omega, by rw [← List.length_map (f := fun x : Part => x.bs), e2]; omega, by rw [e3]; omega⟩)
      have HLn9 := hid HLn.out.1
      have HLn10 := hid HLn.out.2.1
      have ea' : ca = some ⟨b, o, none⟩ := ea
      subst ea'
      clear hcell hyq hy hyc hcE hkh hkc HGq hm ea
      go_upto_region 9 with (go_at_call 46; refine HRd.out.mono ?_; rintro e w8 ⟨p, rfl, hp, hrd, hA8⟩; have HPl := hid (Nat.le_trans HI.out.1.touch.size hp); have HR9 := hid hrd; have HP9 := hid (HI.out.1.adds hA8); clear hp hrd hA8)
      clear hcell'
      refine Pe_begin (S := fun W : World => W.heap[N5]? = some (.cells #[.bool true, .slice ka ks.length kc, .slice va hs2.length vc, .slice ia zs.length ic] 28 (0, 0))) (X := 7) (by kernel_rfl) ?_
      have hS : (fun W : World => W.heap[N5]? = some (.cells #[.bool true, .slice ka ks.length kc, .slice va hs2.length vc, .slice ia zs.length ic] 28 (0, 0))) w8.drew := HP9.out.box
      refine Pe_put (i := 0) 30 (v := .pointer (some ⟨N5, 1, none⟩)) rfl rfl (by kernel_rfl) (by kernel_rfl) (by kernel_rfl) (by kernel_rfl) (fun _ _ _ h => h) (Or.inl ⟨by rfl, fun w' hw' => ?_⟩) hS ?_
      · go_simp
      simp only [Act.put, List.setIfInBounds_toArray, List.set_cons_zero, List.set_cons_succ]
      refine Pe_put (i := 1) 31 (v := .slice ka ks.length kc) rfl rfl (by kernel_rfl) (by kernel_rfl) (by kernel_rfl) (by kernel_rfl) (fun _ _ _ h => h) (Or.inl ⟨by rfl, fun w' hw' => ?_⟩) hS ?_
      · (have c := cellOf hw' 1; clear hw'; go_simp)
      simp only [Act.put, List.setIfInBounds_toArray, List.set_cons_zero, List.set_cons_succ]
      refine Pe_put (i := 2) 32 (v := .pointer (some ⟨p, 0, none⟩)) rfl rfl (by kernel_rfl) (by kernel_rfl) (by kernel_rfl) (by kernel_rfl) (fun _ _ _ h => h) (Or.inl ⟨by rfl, fun w' hw' => ?_⟩) hS ?_
      · go_simp
      simp only [Act.put, List.setIfInBounds_toArray, List.set_cons_zero, List.set_cons_succ]
      refine Pe_call (i := 3) 33 47 #[.pointer (some ⟨p, 0, none⟩), .int .i64 40] (by kernel_rfl) rfl rfl (by rfl) (by go_simp) (show Calls Try.prog 47 #[.pointer (some ⟨p, 0, none⟩), .int .i64 40] w8.drew (PR w8.drew (.pointer (some ⟨p, 0, none⟩)) (.string ⟨(N.pkey c).toArray⟩) (N.pst1 c)) from text_any 40 (by decide) (HR9.out.adds (adds_dr w8))) ?_
      rintro e wa9 ⟨rfl, hra9, hTa9⟩
      have HPa9 := hid ((HP9.out.adds (adds_dr w8)).read (HR9.out.adds (adds_dr w8)) HPl.out hTa9)
      have HRa9 := hid hra9
      clear hra9 hTa9 hS
      have hS : (fun W : World => W.heap[N5]? = some (.cells #[.bool true, .slice ka ks.length kc, .slice va hs2.length vc, .slice ia zs.length ic] 28 (0, 0))) wa9 := HPa9.out.box
      refine ⟨_, rfl, fun _ => hS, ?_⟩
      simp only [Act.put, List.setIfInBounds_toArray, List.set_cons_zero, List.set_cons_succ]
      have HPQ9 := HPa9
      have HRQ9 := HRa9
      have hSb : (fun W : World => W.heap[N5]? = some (.cells #[.bool true, .slice ka ks.length kc, .slice va hs2.length vc, .slice ia zs.length ic] 28 (0, 0))) (wa9.alloc (.cells #[.string ⟨(N.pkey c).toArray⟩] 9)) := box_adds hS ((Touch.refl _ wa9).alloc _)
      refine Pe_all (rs := [4]) (by kernel_rfl) (by simp) (fun jj hj => ?_)
      obtain rfl := List.mem_singleton.1 hj
      refine EO_value 34 (v := .slice (some ⟨wa9.heap.size, 0, none⟩) 1 1) (w' := wa9.alloc (.cells #[.string ⟨(N.pkey c).toArray⟩] 9)) rfl rfl (by rfl) (by go_simp) hSb ?_
      clear hS; have hS := hSb; clear hSb
      simp only [Act.put, List.setIfInBounds_toArray, List.set_cons_zero, List.set_cons_succ]
      have HPb9 := hid (HPQ9.out.adds ((Touch.refl _ wa9).alloc (.cells #[.string ⟨(N.pkey c).toArray⟩] 9)))
      have HRb9 := hid (HRQ9.out.adds ((Touch.refl _ wa9).alloc (.cells #[.string ⟨(N.pkey c).toArray⟩] 9)))
      obtain ⟨i9, hi9, hz9, hs9, hb9⟩ := infoES
      refine Pe_do (i := 5) (some 35) (by kernel_rfl) rfl rfl rfl (fun K' hK => ?_)
      refine wp_append_cold 22 9 i9 (.string ⟨#[]⟩) 16 Try.underlying22 hi9 hz9 hs9 hb9 (by decide) rfl rfl (fun _ h => by cases h) (.tmp 31) (.tmp 34) rfl wc.heap.size (.slice ka ks.length kc) ks.length _ rfl HPb9.out.own.keys HPb9.out.ck wa9.heap.size (.string ⟨(N.pkey c).toArray⟩) rfl (cellOf (heap_alloc_new wa9 _) 0) rfl (fun _ h => by cases h) (HLn9.out) HPb9.out.touch.size ?_
      intro v9 w9' r1 r2 r3 r4
      obtain ⟨a9, c9, hv9, hbx9, hpz9⟩ := HPb9.out.key  r1 r2 r4
      have HRc9 := hid ((HRb9.out.grown HPb9.out.own.keys (by decide) HPb9.out.ck r2).boxed (j := 1) (v := v9) hbx9)
      subst hv9
      have HPc9 := hid hpz9
      have HBx9 := hid hbx9
      clear hS r1 r2 r3 r4 hpz9 hbx9 hi9 hz9 hs9 hb9
      have hS : (fun W : World => W.heap[N5]? = some (.cells #[.bool true, .slice ka ks.length kc, .slice va hs2.length vc, .slice ia zs.length ic] 28 (0, 0))) w9' := HBx9.out
      refine hK _ _ (fun _ => hS) ?_
      simp only [Act.put, List.setIfInBounds_toArray, List.set_cons_zero, List.set_cons_succ]
      refine Pe_put (i := 6) 36 (v := .pointer (some ⟨N5, 1, none⟩)) rfl rfl (by kernel_rfl) (by kernel_rfl) (by kernel_rfl) (by kernel_rfl) (fun _ _ _ h => h) (Or.inl ⟨by rfl, fun w' hw' => ?_⟩) hS ?_
      · go_simp
      simp only [Act.put, List.setIfInBounds_toArray, List.set_cons_zero, List.set_cons_succ]
      have q1 := box_free HBx9.out 1
      have q3 := cellOf HBx9.out 1
      refine Pe_do (i := 7) none (by kernel_rfl) rfl rfl rfl (fun K' hK => ?_)
      clear hS
      go_simp
      refine hK undef _ (fun h => absurd rfl h) (Pe_done (by kernel_rfl) ?_ _)
      clear q1 q3
      simp only [Act.put]
      obtain ⟨w10, hw10⟩ : ∃ w10, w10 = w9'.setCell ⟨N5, 1, none⟩ (.slice a9 (ks.length + 1) c9) := ⟨_, rfl⟩
      have HP10 := hid (show Pz wc w10 N5 true ⟨true, a9, c9, ks ++ [N.pkey c], ⟨va, vc, hs2⟩, ia, ic, zs⟩ by rw [hw10]; exact HPc9.out)
      have HR10 := hid (show RD w10 (.pointer (some ⟨p, 0, none⟩)) (N.pst1 c) by rw [hw10]; exact HRc9.out)
      rw [← hw10]
      clear hw10
      obtain ⟨d0, d1, d2, d3⟩ := box_cells HP10.out.box
      go_upto_region 11 with fail
      clear d0 d1 d2 d3
      refine Pe_begin (S := fun W : World => W.heap[N5]? = some (.cells #[.bool true, .slice a9 (ks ++ [N.pkey c]).length c9, .slice va hs2.length vc, .slice ia zs.length ic] 28 (0, 0))) (X := 8) (by kernel_rfl) ?_
      have hS : (fun W : World => W.heap[N5]? = some (.cells #[.bool true, .slice a9 (ks ++ [N.pkey c]).length c9, .slice va hs2.length vc, .slice ia zs.length ic] 28 (0, 0))) w10.drew := HP10.out.box
      refine Pe_put (i := 0) 39 (v := .pointer (some ⟨N5, 2, none⟩)) rfl rfl (by kernel_rfl) (by kernel_rfl) (by kernel_rfl) (by kernel_rfl) (fun _ _ _ h => h) (Or.inl ⟨by rfl, fun w' hw' => ?_⟩) hS ?_
      · go_simp
      simp only [Act.put, List.setIfInBounds_toArray, List.set_cons_zero, List.set_cons_succ]
      refine Pe_put (i := 1) 40 (v := .slice va hs2.length vc) rfl rfl (by kernel_rfl) (by kernel_rfl) (by kernel_rfl) (by kernel_rfl) (fun _ _ _ h => h) (Or.inl ⟨by rfl, fun w' hw' => ?_⟩) hS ?_
      · (have c := cellOf hw' 2; clear hw'; go_simp)
      simp only [Act.put, List.setIfInBounds_toArray, List.set_cons_zero, List.set_cons_succ]
      refine Pe_put (i := 2) 41 (v := .pointer (some ⟨p, 0, none⟩)) rfl rfl (by kernel_rfl) (by kernel_rfl) (by kernel_rfl) (by kernel_rfl) (fun _ _ _ h => h) (Or.inl ⟨by rfl, fun w' hw' => ?_⟩) hS ?_
      · go_simp
      simp only [Act.put, List.setIfInBounds_toArray, List.set_cons_zero, List.set_cons_succ]
      refine Pe_call (i := 3) 42 47 #[.pointer (some ⟨p, 0, none⟩), .int .i64 49] (by kernel_rfl) rfl rfl (by rfl) (by go_simp) (show Calls Try.prog 47 #[.pointer (some ⟨p, 0, none⟩), .int .i64 49] w10.drew (PR w10.drew (.pointer (some ⟨p, 0, none⟩)) (.string ⟨(N.pval c).toArray⟩) (N.pst2 true c)) from text_any 49 (by decide) (HR10.out.adds (adds_dr w10))) ?_
      rintro e wa10 ⟨rfl, hra10, hTa10⟩
      have HPa10 := hid ((HP10.out.adds (adds_dr w10)).read (HR10.out.adds (adds_dr w10)) HPl.out hTa10)
      have HRa10 := hid hra10
      clear hra10 hTa10 hS
      have hS : (fun W : World => W.heap[N5]? = some (.cells #[.bool true, .slice a9 (ks ++ [N.pkey c]).length c9, .slice va hs2.length vc, .slice ia zs.length ic] 28 (0, 0))) wa10 := HPa10.out.box
      refine ⟨_, rfl, fun _ => hS, ?_⟩
      simp only [Act.put, List.setIfInBounds_toArray, List.set_cons_zero, List.set_cons_succ]
      obtain ⟨sc, ws, hcv, hpt, hAs⟩ := str_pt (N.pval c) wa10
      have hcv2 : (convert 9 30 (.string ⟨(N.pval c).toArray⟩)).run Try.prog wa10 = .ok (.slice (some ⟨wa10.heap.size, 0, none⟩) (N.pval c).length sc) ws := hcv
      have hSs : (fun W : World => W.heap[N5]? = some (.cells #[.bool true, .slice a9 (ks ++ [N.pkey c]).length c9, .slice va hs2.length vc, .slice ia zs.length ic] 28 (0, 0))) ws := box_adds hS hAs
      refine Pe_all (rs := [4]) (by kernel_rfl) (by simp) (fun jj hj => ?_)
      obtain rfl := List.mem_singleton.1 hj
      refine EO_value 43 (v := .slice (some ⟨wa10.heap.size, 0, none⟩) (N.pval c).length sc) (w' := ws) rfl rfl (by rfl) (by go_simp) hSs ?_
      clear hS hcv hcv2; have hS := hSs; clear hSs
      simp only [Act.put, List.setIfInBounds_toArray, List.set_cons_zero, List.set_cons_succ]
      have HPQ10 := hid (HPa10.out.adds hAs)
      have HRQ10 := hid (HRa10.out.adds hAs)
      have HPt := hid (hpt.lower HPa10.out.touch.size)
      clear hpt hAs
      have hSb : (fun W : World => W.heap[N5]? = some (.cells #[.bool true, .slice a9 (ks ++ [N.pkey c]).length c9, .slice va hs2.length vc, .slice ia zs.length ic] 28 (0, 0))) (ws.alloc (.cells #[.slice (some ⟨wa10.heap.size, 0, none⟩) (N.pval c).length sc] 30)) := box_adds hS ((Touch.refl _ ws).alloc _)
      refine Pe_all (rs := [5]) (by kernel_rfl) (by simp) (fun jj hj => ?_)
      obtain rfl := List.mem_singleton.1 hj
      refine EO_value 44 (v := .slice (some ⟨ws.heap.size, 0, none⟩) 1 1) (w' := ws.alloc (.cells #[.slice (some ⟨wa10.heap.size, 0, none⟩) (N.pval c).length sc] 30)) rfl rfl (by rfl) (by go_simp) hSb ?_
      clear hS; have hS := hSb; clear hSb
      simp only [Act.put, List.setIfInBounds_toArray, List.set_cons_zero, List.set_cons_succ]
      have HPb10 := hid (HPQ10.out.adds ((Touch.refl _ ws).alloc (.cells #[.slice (some ⟨wa10.heap.size, 0, none⟩) (N.pval c).length sc] 30)))
      have HRb10 := hid (HRQ10.out.adds ((Touch.refl _ ws).alloc (.cells #[.slice (some ⟨wa10.heap.size, 0, none⟩) (N.pval c).length sc] 30)))
      obtain ⟨i10, hi10, hz10, hs10, hb10⟩ := infoEB
      refine Pe_do (i := 6) (some 45) (by kernel_rfl) rfl rfl rfl (fun K' hK => ?_)
      refine wp_append_cold 23 30 i10 (.slice none 0 0) 24 Try.underlying23 hi10 hz10 hs10 hb10 (by decide) rfl rfl (fun _ h => by cases h) (.tmp 40) (.tmp 44) rfl wc.heap.size (.slice va hs2.length vc) hs2.length _ rfl HPb10.out.own.vals HPb10.out.cv ws.heap.size (.slice (some ⟨wa10.heap.size, 0, none⟩) (N.pval c).length sc) rfl (cellOf (heap_alloc_new ws _) 0) rfl (fun _ h => by cases h) (HLn10.out) HPb10.out.touch.size ?_
      intro v10 w10' r1 r2 r3 r4
      obtain ⟨a10, c10, hv10, hbx10, hpz10⟩ := HPb10.out.value (y := ⟨some ⟨wa10.heap.size, 0, none⟩, N.pval c, sc⟩) (HPt.out.adds ((Touch.refl _ ws).alloc _)) r1 r2 r4
      have HRc10 := hid ((HRb10.out.grown HPb10.out.own.vals (by decide) HPb10.out.cv r2).boxed (j := 2) (v := v10) hbx10)
      subst hv10
      have HPc10 := hid hpz10
      have HBx10 := hid hbx10
      clear hS r1 r2 r3 r4 hpz10 hbx10 hi10 hz10 hs10 hb10
      have hS : (fun W : World => W.heap[N5]? = some (.cells #[.bool true, .slice a9 (ks ++ [N.pkey c]).length c9, .slice va hs2.length vc, .slice ia zs.length ic] 28 (0, 0))) w10' := HBx10.out
      refine hK _ _ (fun _ => hS) ?_
      simp only [Act.put, List.setIfInBounds_toArray, List.set_cons_zero, List.set_cons_succ]
      refine Pe_put (i := 7) 46 (v := .pointer (some ⟨N5, 2, none⟩)) rfl rfl (by kernel_rfl) (by kernel_rfl) (by kernel_rfl) (by kernel_rfl) (fun _ _ _ h => h) (Or.inl ⟨by rfl, fun w' hw' => ?_⟩) hS ?_
      · go_simp
      simp only [Act.put, List.setIfInBounds_toArray, List.set_cons_zero, List.set_cons_succ]
      have q1 := box_free HBx10.out 2
      have q3 := cellOf HBx10.out 2
      refine Pe_do (i := 8) none (by kernel_rfl) rfl rfl rfl (fun K' hK => ?_)
      clear hS
      go_simp
      refine hK undef _ (fun h => absurd rfl h) (Pe_done (by kernel_rfl) ?_ _)
      clear q1 q3
      simp only [Act.put]
      obtain ⟨w12, hw12⟩ : ∃ w12, w12 = w10'.setCell ⟨N5, 2, none⟩ (.slice a10 (hs2.length + 1) c10) := ⟨_, rfl⟩
      have HP12 := hid (show Pz wc w12 N5 true ⟨true, a9, c9, ks ++ [N.pkey c], ⟨a10, c10, hs2 ++ [⟨some ⟨wa10.heap.size, 0, none⟩, N.pval c, sc⟩]⟩, ia, ic, zs⟩ by rw [hw12]; exact HPc10.out)
      have HNd2 := hid (show (⟨true, ks ++ [N.pkey c], (hs2 ++ [(⟨some ⟨wa10.heap.size, 0, none⟩, N.pval c, sc⟩ : Part)]).map (·.bs), zs⟩ : N.Nd) = N.pnode true (cl.take (k + 1)) by
        rw [HCk.out, pnode_snoc, ← HI.out.2.1]
        have e3 : zs = [] := congrArg N.Nd.kids HI.out.2.1
        simp [NM.nd, Pl.bs, e3])
      have HR12 := hid (show RD w12 (.pointer (some ⟨p, 0, none⟩)) (N.pst2 true c) by rw [hw12]; exact HRc10.out)
      rw [← hw12]
      clear hw12
      obtain ⟨er, her⟩ : ∃ er, er = M.endE (N.pst2 true c) := ⟨_, rfl⟩
      have HEr := hid her
      have HEn := hid (end_any HR12.out)
      rw [← her] at HEn
      clear her
      by_cases h0 : er = 0
      · subst h0
        go_wp2_with (go_at_call 49; refine HEn.out.mono ?_; rintro e w13 ⟨rfl, hw⟩; rw [hw]; clear hw)
        go_roundw
        case rel =>
          refine ⟨k + 1, _, _, _, _, _, _, _, _, _, by omega, by go_num, HP12.out, HNd2.out, fun c' hc' => ?_⟩
          rw [HCk.out] at hc'
          rcases List.mem_append.1 hc' with hc' | hc'
          · exact HI.out.2.2 c' hc'
          · rw [List.mem_singleton.1 hc']; unfold N.pbad; rw [← HEr.out]; rfl
        case measure => simp [intOf]; omega
      · have h0z : ((er : Int) != 0) = true := by simpa using h0
        have HBad := hid (show N.pbad true c = true by unfold N.pbad; rw [← HEr.out]; simpa using h0)
        have HB12 := hid (show w12.heap[N1]? = some NZ by
          rw [(HP12.out.touch).block N1 (Array.getElem?_eq_some_iff.1 HB1c.out).1 HN15.out]; exact HB1c.out)
        clear h0
        go_wp2_with (first
          | (go_at_call 49; refine HEn.out.mono ?_; rintro e w13 ⟨rfl, hw⟩; rw [hw]; clear hw)
          | (refine wpList_store_row rfl 28 _ _ rfl N1 #[.bool false, .slice .none 0 0, .slice .none 0 0, .slice .none 0 0] rfl rfl 28 _ HB12.out (info4 _ _ _ _) rfl (one4 _ _ _ _ _ _ _ _ _ _) ?_))
        refine bodyPost_ret (results_n2 rfl _ _ N1 _ rfl (setRow_heap w12 N1 _ _ 28 _ HB12.out) rfl) rfl ?_
        rw [HNo.out (List.any_eq_true.2 ⟨c, HMem.out, HBad.out⟩)]
        exact ptnode_end (z := NM.none) rfl rfl (NOwn.none _ _) (HAc.out.then HP12.out.touch (fun j hj e => by have := HN5.out; omega)) HB12.out HL.out _
    · obtain rfl : k = cn := by omega
      have hlz : ¬ (k : Int) < (k : Int) := by omega
      have htk : cl.take k = cl := by rw [HCn.out, List.take_length]
      have HNd3 := hid (show (⟨true, ks, hs2.map (·.bs), zs⟩ : N.Nd) = N.pnode true cl by have q := HI.out.2.1; rw [htk] at q; exact q)
      have HE := hid (HYes.out (by
        rw [List.any_eq_false]
        intro c hc
        have q := HI.out.2.2 c (by rw [htk]; exact hc)
        rw [q]; decide))
      have HB1r := hid (show wr.heap[N1]? = some NZ by rw [(HI.out.1.touch).block N1 (Array.getElem?_eq_some_iff.1 HB1c.out).1 HN15.out]; exact HB1c.out)
      have HAr := hid (HAc.out.then HI.out.1.touch (fun j hj e => by have := HN5.out; omega))
      have HWh := hid (whole_made (w1 := w) HNd3.out HI.out.1.own (pnode_bd true cl (by rw [← HCn.out]; omega)) HAc.out.size)
      clear htk
      go_wp2_with (first
        | (refine wpList_load_row rfl 28 _ rfl N5 rfl 28 _ _ _ HI.out.1.box Try.underlying28 rfl (info4 _ _ _ _) ?_)
        | (go_at_call 50; refine HWh.out.mono ?_; rintro e w5 ⟨leaf5, ka5, kc5, ks5, va5, vc5, hs5, ia5, ic5, zs5, rfl, H5⟩; have HB5r := hid (box_adds HB1r.out H5.out.2.2))
        | (refine wpList_store_row rfl 28 _ _ rfl N1 #[.bool leaf5, .slice ka5 ks5.length kc5, .slice va5 hs5.length vc5, .slice ia5 zs5.length ic5] rfl rfl 28 _ HB5r.out (info4 _ _ _ _) rfl (one4 _ _ _ _ _ _ _ _ _ _) ?_))
      refine bodyPost_ret (results_n2 rfl _ _ N1 _ rfl (setRow_heap w5 N1 _ _ 28 _ HB5r.out) rfl) rfl ?_
      rw [HE.out]
      exact ptnode_end (z := ⟨leaf5, ka5, kc5, ks5, ⟨va5, vc5, hs5⟩, ia5, ic5, zs5⟩) H5.out.1 rfl H5.out.2.1 (HAr.out.trans H5.out.2.2) HB5r.out HL.out _
set_option maxRecDepth 100000 in
set_option maxHeartbeats 16000000 in
theorem nparse_inner (a : Option Addr) (bs : List UInt8) (n cap : Nat) (w : World) (hn : bs.length = n) (hc : n ≤ cap) (hA : At w a bs) (hk : M.kindP bs = 6) : Calls Try.prog 22 #[.slice a n cap] w (PTnode w (N.parse bs)) := by
  obtain ⟨cl, hcl⟩ : ∃ cl, cl = M.cellsP bs := ⟨_, rfl⟩
  obtain ⟨hc244, hc122⟩ : (∀ c ∈ M.cellsP bs, c.length ≤ 244) ∧ (M.cellsP bs).length ≤ 122 := by
    cases hR : M.readP bs with
    | none => rw [(M.none_all hR).2.2.1]; exact ⟨fun c h => (by cases h), by decide⟩
    | some p => rw [(M.some_all hR).2.2.1]; exact ⟨fun c h => cell_len (M.read_ok hR).1 h, (M.read_ok hR).1.count.1⟩
  rw [← hcl] at hc244 hc122
  have HNo := hid (show cl.any (N.pbad false) = true → N.parse bs = (N.nil, 22) from fun h => by
    unfold N.parse
    rw [hk, ← hcl, if_neg (by decide), show ((6 : UInt8) == 5) = false from rfl, if_pos h])
  have HYes := hid (show cl.any (N.pbad false) = false → N.parse bs = N.told (N.pnode false cl) from fun h => by
    unfold N.parse
    rw [hk, ← hcl, if_neg (by decide), show ((6 : UInt8) == 5) = false from rfl, if_neg (by rw [h]; decide)])
  obtain ⟨N1, hN1⟩ : ∃ N1, N1 = w.heap.size := ⟨_, rfl⟩
  obtain ⟨w1, hw1⟩ : ∃ w1, w1 = w.alloc NZ := ⟨_, rfl⟩
  have HA1 := hid (show Adds w w1 by rw [hw1]; exact (Touch.refl _ w).alloc _)
  have HB1 := hid (show w1.heap[N1]? = some NZ by rw [hw1, hN1]; exact heap_alloc_new w _)
  have HL := hid (show w.heap.size ≤ N1 by omega)
  have HK := hid (show Calls Try.prog 44 #[.slice a n cap] w1 (Adding (.int .u8 6) w1) by
    have q := gkind_any a bs n cap w1 hn hc (hA.adds HA1.out)
    rw [hk] at q
    exact q)
  obtain ⟨cn, hcn⟩ : ∃ cn, cn = cl.length := ⟨_, rfl⟩
  have HCe := hid (fun (W : World) (hW : Adds w W) => show Calls Try.prog 45 #[.slice a n cap] W (fun e w' => ∃ ca cc, ∃ hs : List Part, e = .returned (.slice ca cn cc) ∧ Hid (hs.map (·.bs) = cl ∧ GQ w' (fun k => W.heap.size ≤ k) ⟨ca, cc, hs⟩ ∧ Adds W w' ∧ cn ≤ cc)) by
    rw [hcn, hcl]; exact gcells_any a bs n cap W hn hc (hA.adds hW))
  have hcn9 : cn ≤ 122 := by rw [hcn]; exact hc122
  have HCn := hid hcn
  have H244 := hid hc244
  clear hn hc hA hk hcl hc244 hc122 hcn
  go_enter Try.func22, Try.ntmps22
  go_upto_region 1 with fail
  rw [← hw1, ← hN1]
  clear hw1 hN1
  go_upto_region 5 with (first
    | (go_at_call 44; refine HK.out.mono ?_; rintro e w2 ⟨rfl, hA2⟩; have H2 := hid hA2; clear hA2)
    | (refine wpList_store_row rfl 28 _ _ rfl w2.heap.size #[.bool false, .slice .none 0 0, .slice .none 0 0, .slice .none 0 0] rfl rfl 28 _ (heap_alloc_new w2 NZ) (info4 _ _ _ _) rfl (one4 _ _ _ _ _ _ _ _ _ _) ?_))
  obtain ⟨N5, hN5⟩ : ∃ N5, N5 = w2.heap.size := ⟨_, rfl⟩
  obtain ⟨w3, hw3⟩ : ∃ w3, w3 = (w2.alloc NZ).setRow w2.heap.size #[.bool false, .slice .none 0 0, .slice .none 0 0, .slice .none 0 0] := ⟨_, rfl⟩
  have hlt1 : N1 < w2.heap.size := Nat.lt_of_lt_of_le (Array.getElem?_eq_some_iff.1 HB1.out).1 H2.out.size
  have HB5 := hid (show w3.heap[N5]? = some (.cells #[.bool false, .slice .none 0 0, .slice .none 0 0, .slice .none 0 0] 28 (0, 0)) by rw [hw3, hN5]; exact setRow_heap (w2.alloc NZ) w2.heap.size _ _ 28 _ (heap_alloc_new w2 NZ))
  have HA3 := hid (show Adds w w3 by rw [hw3]; exact ((HA1.out.trans H2.out).alloc NZ).then (touch_row (w2.alloc NZ) w2.heap.size _) (fun j hj e => by have := (HA1.out.trans H2.out).size; omega))
  have HB13 := hid (show w3.heap[N1]? = some NZ by
    rw [hw3, (touch_row (w2.alloc NZ) w2.heap.size _).block N1 (by simp; omega) (by omega)]
    exact box_adds HB1.out (H2.out.alloc NZ))
  have HN5 := hid (show w.heap.size ≤ N5 by rw [hN5]; exact (HA1.out.trans H2.out).size)
  have HN15 := hid (show ¬ N1 = N5 by omega)
  have HN5w := hid (show N5 < w3.heap.size from (Array.getElem?_eq_some_iff.1 HB5.out).1)
  have HCe3 := hid (HCe.out w3 HA3.out)
  rw [← hw3, ← hN5]
  clear hw3 hN5 hlt1
  go_wp2_with (go_at_call 45; refine HCe3.out.mono ?_; rintro e wc ⟨ca, cc, hs, rfl, Hc⟩)
  have HAc := hid (HA3.out.trans Hc.out.2.2.1)
  have HB1c := hid (box_adds HB13.out Hc.out.2.2.1)
  have HPz0 := hid (show Pz wc wc N5 false ⟨false, none, 0, [], ⟨none, 0, []⟩, none, 0, []⟩ from
    ⟨Touch.refl _ _, ⟨World.ownsRow_nil _ _ _ _, World.ownsRow_nil _ _ _ _, fun p hp => (by cases hp), World.ownsRow_nil _ _ _ _⟩, fun g hg => (by cases hg), fun g hg => (by cases hg), fun g hg => (by cases hg), box_adds HB5.out Hc.out.2.2.1, rfl⟩)
  have HLh := hid (show hs.length = cn by rw [HCn.out, ← Hc.out.1, List.length_map])
  go_loopw [24] (fun t wx => ∃ (k : Nat) (ka : Option Addr) (kc : Nat) (ks : List (List UInt8)) (va : Option Addr) (vc : Nat) (hs2 : List Part) (ia : Option Addr) (ic : Nat) (zs : List Int), k ≤ cn ∧ t = .int .i64 (k : Int) ∧ Hid (Pz wc wx N5 false ⟨false, ka, kc, ks, ⟨va, vc, hs2⟩, ia, ic, zs⟩ ∧ NM.nd ⟨false, ka, kc, ks, ⟨va, vc, hs2⟩, ia, ic, zs⟩ = N.pnode false (cl.take k) ∧ ∀ c ∈ cl.take k, N.pbad false c = false)) (fun t _ => cn - (intOf t).toNat)
  case atStart => exact ⟨0, none, 0, [], none, 0, [], none, 0, [], Nat.zero_le _, rfl, HPz0.out, rfl, fun c hc => by cases hc⟩
  case round =>
    obtain ⟨k, ka, kc, ks, va, vc, hs2, ia, ic, zs, hk, rfl, HI⟩ := hrel
    by_cases hlt : k < cn
    · have hlz : (k : Int) < (cn : Int) := by omega
      have hkh : k < hs.length := by rw [HLh.out]; exact hlt
      have hkc : k < cl.length := by rw [← HCn.out]; exact hlt
      have HGq := (Hc.out.2.1.touch HI.out.1.touch (fun j hj c => by have := HN5w.out; omega))
      obtain ⟨b, o, ea, hcell⟩ := HGq.cell hkh
      obtain ⟨y, hy⟩ : ∃ y, y = hs[k] := ⟨_, rfl⟩
      obtain ⟨c, hcE⟩ : ∃ c, c = cl[k] := ⟨_, rfl⟩
      have hyc : y.bs = c := by
        have q : (hs.map (·.bs))[k]? = cl[k]? := by rw [Hc.out.1]
        rw [List.getElem?_map, List.getElem?_eq_getElem hkh, List.getElem?_eq_getElem hkc] at q
        rw [hy, hcE]; exact Option.some.inj q
      have HMem := hid (show c ∈ cl by rw [hcE]; exact List.getElem_mem hkc)
      have HCk := hid (show cl.take (k + 1) = cl.take k ++ [c] by rw [List.take_add_one, List.getElem?_eq_getElem hkc, hcE]; rfl)
      have hyq := HGq.all hs[k] (List.getElem_mem hkh)
      rw [← hy] at hcell hyq
      obtain ⟨m, hm⟩ : ∃ m, m = y.bs.length := ⟨_, rfl⟩
      have hm9 : m ≤ 244 := by rw [hm, hyc]; exact H244.out c HMem.out
      have hcell' : wr.cell? ⟨b, o + k, none⟩ = some (.slice y.a m y.cap) := by rw [hm]; exact hcell
      have HRd := hid (show Calls Try.prog 46 #[.slice y.a m y.cap] wr (PRead wr c) by
        rw [hm, ← hyc]; exact read_any y.a y.bs y.cap wr (by omega) hyq.non hyq.at_.at)
      have HLn := hid (show ks.length ≤ 1000000 ∧ hs2.length ≤ 1000000 ∧ zs.length ≤ 1000000 by
        have q := HI.out.2.1
        have hkt : (cl.take k).length ≤ 122 := by rw [List.length_take]; omega
        have e1 : ks = (cl.take k).map N.pkey := congrArg N.Nd.keys q
        have e2 : hs2.map (·.bs) = (N.pnode false (cl.take k)).vals := congrArg N.Nd.vals q
        have e3 : zs = (N.pnode false (cl.take k)).kids := congrArg N.Nd.kids q
        have b2 : (N.pnode false (cl.take k)).vals.length ≤ 122 := by unfold N.pnode; simp; try omega
        have b3 : (N.pnode false (cl.take k)).kids.length ≤ 122 := by unfold N.pnode; simp; try omega
        refine ⟨by rw [e1, List.length_map]; omega, by rw [← List.length_map (f := fun x : Part => x.bs), e2]; omega, by rw [e3]; omega⟩)
      have HLn9 := hid HLn.out.1
      have HLn10 := hid HLn.out.2.2
      have ea' : ca = some ⟨b, o, none⟩ := ea
      subst ea'
      clear hcell hyq hy hyc hcE hkh hkc HGq hm ea
      go_upto_region 9 with (go_at_call 46; refine HRd.out.mono ?_; rintro e w8 ⟨p, rfl, hp, hrd, hA8⟩; have HPl := hid (Nat.le_trans HI.out.1.touch.size hp); have HR9 := hid hrd; have HP9 := hid (HI.out.1.adds hA8); clear hp hrd hA8)
      clear hcell'
      refine Pe_begin (S := fun W : World => W.heap[N5]? = some (.cells #[.bool false, .slice ka ks.length kc, .slice va hs2.length vc, .slice ia zs.length ic] 28 (0, 0))) (X := 7) (by kernel_rfl) ?_
      have hS : (fun W : World => W.heap[N5]? = some (.cells #[.bool false, .slice ka ks.length kc, .slice va hs2.length vc, .slice ia zs.length ic] 28 (0, 0))) w8.drew := HP9.out.box
      refine Pe_put (i := 0) 30 (v := .pointer (some ⟨N5, 1, none⟩)) rfl rfl (by kernel_rfl) (by kernel_rfl) (by kernel_rfl) (by kernel_rfl) (fun _ _ _ h => h) (Or.inl ⟨by rfl, fun w' hw' => ?_⟩) hS ?_
      · go_simp
      simp only [Act.put, List.setIfInBounds_toArray, List.set_cons_zero, List.set_cons_succ]
      refine Pe_put (i := 1) 31 (v := .slice ka ks.length kc) rfl rfl (by kernel_rfl) (by kernel_rfl) (by kernel_rfl) (by kernel_rfl) (fun _ _ _ h => h) (Or.inl ⟨by rfl, fun w' hw' => ?_⟩) hS ?_
      · (have c := cellOf hw' 1; clear hw'; go_simp)
      simp only [Act.put, List.setIfInBounds_toArray, List.set_cons_zero, List.set_cons_succ]
      refine Pe_put (i := 2) 32 (v := .pointer (some ⟨p, 0, none⟩)) rfl rfl (by kernel_rfl) (by kernel_rfl) (by kernel_rfl) (by kernel_rfl) (fun _ _ _ h => h) (Or.inl ⟨by rfl, fun w' hw' => ?_⟩) hS ?_
      · go_simp
      simp only [Act.put, List.setIfInBounds_toArray, List.set_cons_zero, List.set_cons_succ]
      refine Pe_call (i := 3) 33 47 #[.pointer (some ⟨p, 0, none⟩), .int .i64 40] (by kernel_rfl) rfl rfl (by rfl) (by go_simp) (show Calls Try.prog 47 #[.pointer (some ⟨p, 0, none⟩), .int .i64 40] w8.drew (PR w8.drew (.pointer (some ⟨p, 0, none⟩)) (.string ⟨(N.pkey c).toArray⟩) (N.pst1 c)) from text_any 40 (by decide) (HR9.out.adds (adds_dr w8))) ?_
      rintro e wa9 ⟨rfl, hra9, hTa9⟩
      have HPa9 := hid ((HP9.out.adds (adds_dr w8)).read (HR9.out.adds (adds_dr w8)) HPl.out hTa9)
      have HRa9 := hid hra9
      clear hra9 hTa9 hS
      have hS : (fun W : World => W.heap[N5]? = some (.cells #[.bool false, .slice ka ks.length kc, .slice va hs2.length vc, .slice ia zs.length ic] 28 (0, 0))) wa9 := HPa9.out.box
      refine ⟨_, rfl, fun _ => hS, ?_⟩
      simp only [Act.put, List.setIfInBounds_toArray, List.set_cons_zero, List.set_cons_succ]
      have HPQ9 := HPa9
      have HRQ9 := HRa9
      have hSb : (fun W : World => W.heap[N5]? = some (.cells #[.bool false, .slice ka ks.length kc, .slice va hs2.length vc, .slice ia zs.length ic] 28 (0, 0))) (wa9.alloc (.cells #[.string ⟨(N.pkey c).toArray⟩] 9)) := box_adds hS ((Touch.refl _ wa9).alloc _)
      refine Pe_all (rs := [4]) (by kernel_rfl) (by simp) (fun jj hj => ?_)
      obtain rfl := List.mem_singleton.1 hj
      refine EO_value 34 (v := .slice (some ⟨wa9.heap.size, 0, none⟩) 1 1) (w' := wa9.alloc (.cells #[.string ⟨(N.pkey c).toArray⟩] 9)) rfl rfl (by rfl) (by go_simp) hSb ?_
      clear hS; have hS := hSb; clear hSb
      simp only [Act.put, List.setIfInBounds_toArray, List.set_cons_zero, List.set_cons_succ]
      have HPb9 := hid (HPQ9.out.adds ((Touch.refl _ wa9).alloc (.cells #[.string ⟨(N.pkey c).toArray⟩] 9)))
      have HRb9 := hid (HRQ9.out.adds ((Touch.refl _ wa9).alloc (.cells #[.string ⟨(N.pkey c).toArray⟩] 9)))
      obtain ⟨i9, hi9, hz9, hs9, hb9⟩ := infoES
      refine Pe_do (i := 5) (some 35) (by kernel_rfl) rfl rfl rfl (fun K' hK => ?_)
      refine wp_append_cold 22 9 i9 (.string ⟨#[]⟩) 16 Try.underlying22 hi9 hz9 hs9 hb9 (by decide) rfl rfl (fun _ h => by cases h) (.tmp 31) (.tmp 34) rfl wc.heap.size (.slice ka ks.length kc) ks.length _ rfl HPb9.out.own.keys HPb9.out.ck wa9.heap.size (.string ⟨(N.pkey c).toArray⟩) rfl (cellOf (heap_alloc_new wa9 _) 0) rfl (fun _ h => by cases h) (HLn9.out) HPb9.out.touch.size ?_
      intro v9 w9' r1 r2 r3 r4
      obtain ⟨a9, c9, hv9, hbx9, hpz9⟩ := HPb9.out.key  r1 r2 r4
      have HRc9 := hid ((HRb9.out.grown HPb9.out.own.keys (by decide) HPb9.out.ck r2).boxed (j := 1) (v := v9) hbx9)
      subst hv9
      have HPc9 := hid hpz9
      have HBx9 := hid hbx9
      clear hS r1 r2 r3 r4 hpz9 hbx9 hi9 hz9 hs9 hb9
      have hS : (fun W : World => W.heap[N5]? = some (.cells #[.bool false, .slice ka ks.length kc, .slice va hs2.length vc, .slice ia zs.length ic] 28 (0, 0))) w9' := HBx9.out
      refine hK _ _ (fun _ => hS) ?_
      simp only [Act.put, List.setIfInBounds_toArray, List.set_cons_zero, List.set_cons_succ]
      refine Pe_put (i := 6) 36 (v := .pointer (some ⟨N5, 1, none⟩)) rfl rfl (by kernel_rfl) (by kernel_rfl) (by kernel_rfl) (by kernel_rfl) (fun _ _ _ h => h) (Or.inl ⟨by rfl, fun w' hw' => ?_⟩) hS ?_
      · go_simp
      simp only [Act.put, List.setIfInBounds_toArray, List.set_cons_zero, List.set_cons_succ]
      have q1 := box_free HBx9.out 1
      have q3 := cellOf HBx9.out 1
      refine Pe_do (i := 7) none (by kernel_rfl) rfl rfl rfl (fun K' hK => ?_)
      clear hS
      go_simp
      refine hK undef _ (fun h => absurd rfl h) (Pe_done (by kernel_rfl) ?_ _)
      clear q1 q3
      simp only [Act.put]
      obtain ⟨w10, hw10⟩ : ∃ w10, w10 = w9'.setCell ⟨N5, 1, none⟩ (.slice a9 (ks.length + 1) c9) := ⟨_, rfl⟩
      have HP10 := hid (show Pz wc w10 N5 false ⟨false, a9, c9, ks ++ [N.pkey c], ⟨va, vc, hs2⟩, ia, ic, zs⟩ by rw [hw10]; exact HPc9.out)
      have HR10 := hid (show RD w10 (.pointer (some ⟨p, 0, none⟩)) (N.pst1 c) by rw [hw10]; exact HRc9.out)
      rw [← hw10]
      clear hw10
      obtain ⟨d0, d1, d2, d3⟩ := box_cells HP10.out.box
      go_upto_region 12 with fail
      clear d0 d1 d2 d3
      refine Pe_begin (S := fun W : World => W.heap[N5]? = some (.cells #[.bool false, .slice a9 (ks ++ [N.pkey c]).length c9, .slice va hs2.length vc, .slice ia zs.length ic] 28 (0, 0))) (X := 8) (by kernel_rfl) ?_
      have hS : (fun W : World => W.heap[N5]? = some (.cells #[.bool false, .slice a9 (ks ++ [N.pkey c]).length c9, .slice va hs2.length vc, .slice ia zs.length ic] 28 (0, 0))) w10.drew := HP10.out.box
      refine Pe_put (i := 0) 47 (v := .pointer (some ⟨N5, 3, none⟩)) rfl rfl (by kernel_rfl) (by kernel_rfl) (by kernel_rfl) (by kernel_rfl) (fun _ _ _ h => h) (Or.inl ⟨by rfl, fun w' hw' => ?_⟩) hS ?_
      · go_simp
      simp only [Act.put, List.setIfInBounds_toArray, List.set_cons_zero, List.set_cons_succ]
      refine Pe_put (i := 1) 48 (v := .slice ia zs.length ic) rfl rfl (by kernel_rfl) (by kernel_rfl) (by kernel_rfl) (by kernel_rfl) (fun _ _ _ h => h) (Or.inl ⟨by rfl, fun w' hw' => ?_⟩) hS ?_
      · (have c := cellOf hw' 3; clear hw'; go_simp)
      simp only [Act.put, List.setIfInBounds_toArray, List.set_cons_zero, List.set_cons_succ]
      refine Pe_put (i := 2) 49 (v := .pointer (some ⟨p, 0, none⟩)) rfl rfl (by kernel_rfl) (by kernel_rfl) (by kernel_rfl) (by kernel_rfl) (fun _ _ _ h => h) (Or.inl ⟨by rfl, fun w' hw' => ?_⟩) hS ?_
      · go_simp
      simp only [Act.put, List.setIfInBounds_toArray, List.set_cons_zero, List.set_cons_succ]
      refine Pe_call (i := 3) 50 48 #[.pointer (some ⟨p, 0, none⟩), .int .i64 4] (by kernel_rfl) rfl rfl (by rfl) (by go_simp) (show Calls Try.prog 48 #[.pointer (some ⟨p, 0, none⟩), .int .i64 4] w10.drew (PR w10.drew (.pointer (some ⟨p, 0, none⟩)) (.int .u64 (N.pkid c : Int)) (N.pst2 false c)) from fixed_any 4 (HR10.out.adds (adds_dr w10))) ?_
      rintro e wa10 ⟨rfl, hra10, hTa10⟩
      have HPa10 := hid ((HP10.out.adds (adds_dr w10)).read (HR10.out.adds (adds_dr w10)) HPl.out hTa10)
      have HRa10 := hid hra10
      clear hra10 hTa10 hS
      have hS : (fun W : World => W.heap[N5]? = some (.cells #[.bool false, .slice a9 (ks ++ [N.pkey c]).length c9, .slice va hs2.length vc, .slice ia zs.length ic] 28 (0, 0))) wa10 := HPa10.out.box
      refine ⟨_, rfl, fun _ => hS, ?_⟩
      simp only [Act.put, List.setIfInBounds_toArray, List.set_cons_zero, List.set_cons_succ]
      have HPQ10 := HPa10
      have HRQ10 := HRa10
      refine Pe_put (i := 4) 51 (v := .int .i64 (N.pkid c : Int)) rfl rfl (by kernel_rfl) (by kernel_rfl) (by kernel_rfl) (by kernel_rfl) (fun _ _ _ h => h) (Or.inl ⟨by rfl, fun w' hw' => ?_⟩) hS ?_
      · (clear hw'; go_simp; exact pkid_wrap c)
      simp only [Act.put, List.setIfInBounds_toArray, List.set_cons_zero, List.set_cons_succ]
      have hSb : (fun W : World => W.heap[N5]? = some (.cells #[.bool false, .slice a9 (ks ++ [N.pkey c]).length c9, .slice va hs2.length vc, .slice ia zs.length ic] 28 (0, 0))) (wa10.alloc (.cells #[.int .i64 (N.pkid c : Int)] 3)) := box_adds hS ((Touch.refl _ wa10).alloc _)
      refine Pe_all (rs := [5]) (by kernel_rfl) (by simp) (fun jj hj => ?_)
      obtain rfl := List.mem_singleton.1 hj
      refine EO_value 52 (v := .slice (some ⟨wa10.heap.size, 0, none⟩) 1 1) (w' := wa10.alloc (.cells #[.int .i64 (N.pkid c : Int)] 3)) rfl rfl (by rfl) (by go_simp) hSb ?_
      clear hS; have hS := hSb; clear hSb
      simp only [Act.put, List.setIfInBounds_toArray, List.set_cons_zero, List.set_cons_succ]
      have HPb10 := hid (HPQ10.out.adds ((Touch.refl _ wa10).alloc (.cells #[.int .i64 (N.pkid c : Int)] 3)))
      have HRb10 := hid (HRQ10.out.adds ((Touch.refl _ wa10).alloc (.cells #[.int .i64 (N.pkid c : Int)] 3)))
      obtain ⟨i10, hi10, hz10, hs10, hb10⟩ := infoEI
      refine Pe_do (i := 6) (some 53) (by kernel_rfl) rfl rfl rfl (fun K' hK => ?_)
      refine wp_append_cold 24 3 i10 (.int .i64 0) 8 Try.underlying24 hi10 hz10 hs10 hb10 (by decide) rfl rfl (fun _ h => by cases h) (.tmp 48) (.tmp 52) rfl wc.heap.size (.slice ia zs.length ic) zs.length _ rfl HPb10.out.own.kids HPb10.out.ci wa10.heap.size (.int .i64 (N.pkid c : Int)) rfl (cellOf (heap_alloc_new wa10 _) 0) rfl (fun _ h => by cases h) (HLn10.out) HPb10.out.touch.size ?_
      intro v10 w10' r1 r2 r3 r4
      obtain ⟨a10, c10, hv10, hbx10, hpz10⟩ := HPb10.out.kid (kid := (N.pkid c : Int)) r1 r2 r4
      have HRc10 := hid ((HRb10.out.grown HPb10.out.own.kids (by decide) HPb10.out.ci r2).boxed (j := 3) (v := v10) hbx10)
      subst hv10
      have HPc10 := hid hpz10
      have HBx10 := hid hbx10
      clear hS r1 r2 r3 r4 hpz10 hbx10 hi10 hz10 hs10 hb10
      have hS : (fun W : World => W.heap[N5]? = some (.cells #[.bool false, .slice a9 (ks ++ [N.pkey c]).length c9, .slice va hs2.length vc, .slice ia zs.length ic] 28 (0, 0))) w10' := HBx10.out
      refine hK _ _ (fun _ => hS) ?_
      simp only [Act.put, List.setIfInBounds_toArray, List.set_cons_zero, List.set_cons_succ]
      refine Pe_put (i := 7) 54 (v := .pointer (some ⟨N5, 3, none⟩)) rfl rfl (by kernel_rfl) (by kernel_rfl) (by kernel_rfl) (by kernel_rfl) (fun _ _ _ h => h) (Or.inl ⟨by rfl, fun w' hw' => ?_⟩) hS ?_
      · go_simp
      simp only [Act.put, List.setIfInBounds_toArray, List.set_cons_zero, List.set_cons_succ]
      have q1 := box_free HBx10.out 3
      have q3 := cellOf HBx10.out 3
      refine Pe_do (i := 8) none (by kernel_rfl) rfl rfl rfl (fun K' hK => ?_)
      clear hS
      go_simp
      refine hK undef _ (fun h => absurd rfl h) (Pe_done (by kernel_rfl) ?_ _)
      clear q1 q3
      simp only [Act.put]
      obtain ⟨w12, hw12⟩ : ∃ w12, w12 = w10'.setCell ⟨N5, 3, none⟩ (.slice a10 (zs.length + 1) c10) := ⟨_, rfl⟩
      have HP12 := hid (show Pz wc w12 N5 false ⟨false, a9, c9, ks ++ [N.pkey c], ⟨va, vc, hs2⟩, a10, c10, zs ++ [(N.pkid c : Int)]⟩ by rw [hw12]; exact HPc10.out)
      have HNd2 := hid (show (⟨false, ks ++ [N.pkey c], hs2.map (·.bs), zs ++ [(N.pkid c : Int)]⟩ : N.Nd) = N.pnode false (cl.take (k + 1)) by
        rw [HCk.out, pnode_snoc, ← HI.out.2.1]
        have e2 : hs2.map (·.bs) = [] := congrArg N.Nd.vals HI.out.2.1
        have e3 : hs2 = [] := by simpa using e2
        simp [NM.nd, Pl.bs, e3])
      have HR12 := hid (show RD w12 (.pointer (some ⟨p, 0, none⟩)) (N.pst2 false c) by rw [hw12]; exact HRc10.out)
      rw [← hw12]
      clear hw12
      obtain ⟨er, her⟩ : ∃ er, er = M.endE (N.pst2 false c) := ⟨_, rfl⟩
      have HEr := hid her
      have HEn := hid (end_any HR12.out)
      rw [← her] at HEn
      clear her
      by_cases h0 : er = 0
      · subst h0
        go_wp2_with (go_at_call 49; refine HEn.out.mono ?_; rintro e w13 ⟨rfl, hw⟩; rw [hw]; clear hw)
        go_roundw
        case rel =>
          refine ⟨k + 1, _, _, _, _, _, _, _, _, _, by omega, by go_num, HP12.out, HNd2.out, fun c' hc' => ?_⟩
          rw [HCk.out] at hc'
          rcases List.mem_append.1 hc' with hc' | hc'
          · exact HI.out.2.2 c' hc'
          · rw [List.mem_singleton.1 hc']; unfold N.pbad; rw [← HEr.out]; rfl
        case measure => simp [intOf]; omega
      · have h0z : ((er : Int) != 0) = true := by simpa using h0
        have HBad := hid (show N.pbad false c = true by unfold N.pbad; rw [← HEr.out]; simpa using h0)
        have HB12 := hid (show w12.heap[N1]? = some NZ by
          rw [(HP12.out.touch).block N1 (Array.getElem?_eq_some_iff.1 HB1c.out).1 HN15.out]; exact HB1c.out)
        clear h0
        go_wp2_with (first
          | (go_at_call 49; refine HEn.out.mono ?_; rintro e w13 ⟨rfl, hw⟩; rw [hw]; clear hw)
          | (refine wpList_store_row rfl 28 _ _ rfl N1 #[.bool false, .slice .none 0 0, .slice .none 0 0, .slice .none 0 0] rfl rfl 28 _ HB12.out (info4 _ _ _ _) rfl (one4 _ _ _ _ _ _ _ _ _ _) ?_))
        refine bodyPost_ret (results_n2 rfl _ _ N1 _ rfl (setRow_heap w12 N1 _ _ 28 _ HB12.out) rfl) rfl ?_
        rw [HNo.out (List.any_eq_true.2 ⟨c, HMem.out, HBad.out⟩)]
        exact ptnode_end (z := NM.none) rfl rfl (NOwn.none _ _) (HAc.out.then HP12.out.touch (fun j hj e => by have := HN5.out; omega)) HB12.out HL.out _
    · obtain rfl : k = cn := by omega
      have hlz : ¬ (k : Int) < (k : Int) := by omega
      have htk : cl.take k = cl := by rw [HCn.out, List.take_length]
      have HNd3 := hid (show (⟨false, ks, hs2.map (·.bs), zs⟩ : N.Nd) = N.pnode false cl by have q := HI.out.2.1; rw [htk] at q; exact q)
      have HE := hid (HYes.out (by
        rw [List.any_eq_false]
        intro c hc
        have q := HI.out.2.2 c (by rw [htk]; exact hc)
        rw [q]; decide))
      have HB1r := hid (show wr.heap[N1]? = some NZ by rw [(HI.out.1.touch).block N1 (Array.getElem?_eq_some_iff.1 HB1c.out).1 HN15.out]; exact HB1c.out)
      have HAr := hid (HAc.out.then HI.out.1.touch (fun j hj e => by have := HN5.out; omega))
      have HWh := hid (whole_made (w1 := w) HNd3.out HI.out.1.own (pnode_bd false cl (by rw [← HCn.out]; omega)) HAc.out.size)
      clear htk
      go_wp2_with (first
        | (refine wpList_load_row rfl 28 _ rfl N5 rfl 28 _ _ _ HI.out.1.box Try.underlying28 rfl (info4 _ _ _ _) ?_)
        | (go_at_call 50; refine HWh.out.mono ?_; rintro e w5 ⟨leaf5, ka5, kc5, ks5, va5, vc5, hs5, ia5, ic5, zs5, rfl, H5⟩; have HB5r := hid (box_adds HB1r.out H5.out.2.2))
        | (refine wpList_store_row rfl 28 _ _ rfl N1 #[.bool leaf5, .slice ka5 ks5.length kc5, .slice va5 hs5.length vc5, .slice ia5 zs5.length ic5] rfl rfl 28 _ HB5r.out (info4 _ _ _ _) rfl (one4 _ _ _ _ _ _ _ _ _ _) ?_))
      refine bodyPost_ret (results_n2 rfl _ _ N1 _ rfl (setRow_heap w5 N1 _ _ 28 _ HB5r.out) rfl) rfl ?_
      rw [HE.out]
      exact ptnode_end (z := ⟨leaf5, ka5, kc5, ks5, ⟨va5, vc5, hs5⟩, ia5, ic5, zs5⟩) H5.out.1 rfl H5.out.2.1 (HAr.out.trans H5.out.2.2) HB5r.out HL.out _
set_option maxRecDepth 100000 in
set_option maxHeartbeats 4000000 in
theorem nparse_other (a : Option Addr) (bs : List UInt8) (n cap : Nat) (w : World) (hn : bs.length = n) (hc : n ≤ cap) (hA : At w a bs) (h5 : M.kindP bs ≠ 5) (h6 : M.kindP bs ≠ 6) : Calls Try.prog 22 #[.slice a n cap] w (PTnode w (N.parse bs)) := by
  have HE := hid (show N.parse bs = (N.nil, 22) by unfold N.parse; rw [if_pos ⟨h5, h6⟩])
  obtain ⟨N1, hN1⟩ : ∃ N1, N1 = w.heap.size := ⟨_, rfl⟩
  obtain ⟨w1, hw1⟩ : ∃ w1, w1 = w.alloc NZ := ⟨_, rfl⟩
  have HA1 := hid (show Adds w w1 by rw [hw1]; exact (Touch.refl _ w).alloc _)
  have HB1 := hid (show w1.heap[N1]? = some NZ by rw [hw1, hN1]; exact heap_alloc_new w _)
  have HL := hid (show w.heap.size ≤ N1 by omega)
  obtain ⟨kz, hkz⟩ : ∃ kz, kz = (M.kindP bs).toNat := ⟨_, rfl⟩
  have HK := hid (show Calls Try.prog 44 #[.slice a n cap] w1 (Adding (.int .u8 (kz : Int)) w1) by rw [hkz]; exact gkind_any a bs n cap w1 hn hc (hA.adds HA1.out))
  have e5 : ((kz : Int) != 5) = true := by
    have : kz ≠ 5 := fun e => h5 (UInt8.toNat_inj.1 (by rw [← hkz, e]; rfl))
    simp; omega
  have e6 : ((kz : Int) != 6) = true := by
    have : kz ≠ 6 := fun e => h6 (UInt8.toNat_inj.1 (by rw [← hkz, e]; rfl))
    simp; omega
  clear hn hc hA h5 h6 hkz
  go_enter Try.func22, Try.ntmps22
  go_upto_region 1 with fail
  rw [← hw1, ← hN1]
  clear hw1 hN1
  go_wp2_with (first
    | (go_at_call 44; refine HK.out.mono ?_; rintro e w2 ⟨rfl, hA2⟩; have H2 := hid hA2; have HB2 := hid (box_adds HB1.out hA2); clear hA2)
    | (refine wpList_store_row rfl 28 _ _ rfl N1 #[.bool false, .slice .none 0 0, .slice .none 0 0, .slice .none 0 0] rfl rfl 28 _ HB2.out (info4 _ _ _ _) rfl (one4 _ _ _ _ _ _ _ _ _ _) ?_))
  refine bodyPost_ret (results_n2 rfl _ _ N1 _ rfl (setRow_heap w2 N1 _ _ 28 _ HB2.out) rfl) rfl ?_
  rw [HE.out]
  exact ptnode_end (z := NM.none) rfl rfl (NOwn.none _ _) (HA1.out.trans H2.out) HB2.out HL.out _
theorem nparse_any (a : Option Addr) (bs : List UInt8) (n cap : Nat) (w : World) (hn : bs.length = n) (hc : n ≤ cap) (hA : At w a bs) : Calls Try.prog 22 #[.slice a n cap] w (PTnode w (N.parse bs)) := by
  by_cases h5 : M.kindP bs = 5
  · exact nparse_leaf a bs n cap w hn hc hA h5
  · by_cases h6 : M.kindP bs = 6
    · exact nparse_inner a bs n cap w hn hc hA h6
    · exact nparse_other a bs n cap w hn hc hA h5 h6
end Go.Proofs.Ytplppnngmlljnaa

/- A node's page is told as the node. -/
namespace Go.Proofs.Ytplppnngmlljnaa
open Go.RowKit
namespace N
theorem textR_txt (most : Int) (r t : List UInt8) (h : (r.length : Int) ≤ most) (h2 : r.length < 18446744073709551616) : M.textR most ⟨0, txt r ++ t⟩ = (r, ⟨0, t⟩) := by
  have hs : M.scan 0 (txt r ++ t) = .ok (r.length, r ++ t) := by rw [txt, List.append_assoc]; exact M.scan_put _ h2 _
  have hu : M.uintR (M.atLeast0 most) ⟨0, txt r ++ t⟩ = (r.length, ⟨0, r ++ t⟩) := M.uintR_ok rfl hs (by unfold M.atLeast0; split <;> omega)
  rw [M.textR, hu]
  rw [M.takeR_ok rfl (by simp)]
  simp
theorem fixedR_fix (k : Nat) (hk : k < 4294967296) : M.fixedR 4 ⟨0, M.fix k 4⟩ = (k, ⟨0, []⟩) := by
  rw [fixedR_ok (k := 4) rfl (by rw [M.len_fix]; exact Nat.le_refl _), List.take_of_length_le (by rw [M.len_fix]; exact Nat.le_refl _), M.unfix_fix, Nat.mod_eq_of_lt (by omega), List.drop_eq_nil_of_le (by rw [M.len_fix]; exact Nat.le_refl _)]
theorem val_len {n : Nd} (h : valsOk n.vals = true) {i : Nat} (hi : i < n.vals.length) : (n.vals.getD i []).length ≤ 49 := by
  unfold valsOk at h
  rw [List.all_eq_true] at h
  have h2 := h _ (List.getElem_mem hi)
  simp only [decide_eq_true_eq] at h2
  simpa [List.getD_eq_getElem?_getD, hi] using h2
theorem kid_is {n : Nd} (h : kidsOk n.kids = true) {i : Nat} (hi : i < n.kids.length) : 0 ≤ n.kids.getD i 0 ∧ n.kids.getD i 0 ≤ 2147483647 := by
  unfold kidsOk at h
  rw [List.all_eq_true] at h
  have h2 := h _ (List.getElem_mem hi)
  simp only [Bool.and_eq_true, decide_eq_true_eq] at h2
  simpa [List.getD_eq_getElem?_getD, hi] using h2
/-- What a cell is read as. -/
theorem cell_read {n : Nd} (h : right n = true) {i : Nat} (hi : i < n.keys.length) : pkey (cell n i) = n.keys.getD i [] ∧ pst2 n.leaf (cell n i) = ⟨0, []⟩ ∧ (n.leaf = true → pval (cell n i) = n.vals.getD i []) ∧ (n.leaf = false → (pkid (cell n i) : Int) = n.kids.getD i 0) := by
  have h40 := right_key h hi
  have e := textR_txt 40 (n.keys.getD i []) (if n.leaf then txt (n.vals.getD i []) else M.fix (n.kids.getD i 0).toNat 4) (by omega) (by omega)
  have e1 : pkey (cell n i) = n.keys.getD i [] := by unfold pkey cell; rw [e]
  have e2 : pst1 (cell n i) = ⟨0, if n.leaf then txt (n.vals.getD i []) else M.fix (n.kids.getD i 0).toNat 4⟩ := by unfold pst1 cell; rw [e]
  refine ⟨e1, ?_⟩
  rcases (right_parts h).2 with ⟨q0, q1, q2, q3⟩ | ⟨q0, q1, q2, q3, _, _⟩
  · have h49 := val_len q3 (i := i) (by omega)
    have e3 := textR_txt 49 (n.vals.getD i []) [] (by omega) (by omega)
    rw [List.append_nil] at e3
    rw [q0] at e2 ⊢
    rw [if_pos rfl] at e2
    refine ⟨?_, fun _ => ?_, fun c => by cases c⟩
    · unfold pst2; rw [if_pos rfl, e2, e3]
    · unfold pval; rw [e2, e3]
  · have hk := kid_is q3 (i := i) (by omega)
    have e3 := fixedR_fix (n.kids.getD i 0).toNat (by omega)
    rw [q0] at e2 ⊢
    rw [if_neg (by decide)] at e2
    refine ⟨?_, (fun c => by cases c), fun _ => ?_⟩
    · unfold pst2; rw [if_neg (by decide), e2, e3]
    · unfold pkid; rw [e2, e3]; show (((n.kids.getD i 0).toNat : Nat) : Int) = _; omega
theorem map_range {α : Type} (l : List α) (d : α) (m : Nat) (hm : m = l.length) : (List.range m).map (fun i => l.getD i d) = l := by
  subst hm
  apply List.ext_getElem
  · simp
  · intro i h1 h2
    simp [List.getD_eq_getElem?_getD, h2]
theorem pnode_cells {n : Nd} (h : right n = true) : pnode n.leaf (cells n) = n := by
  have hc : ∀ i ∈ List.range n.keys.length, _ := fun i hi => cell_read h (List.mem_range.1 hi)
  have hp := (right_parts h).2
  obtain ⟨leaf, ks, vs, zs⟩ := n
  unfold pnode cells
  simp only [List.map_map]
  have e1 : List.map (pkey ∘ cell ⟨leaf, ks, vs, zs⟩) (List.range ks.length) = ks := by
    refine Eq.trans (List.map_congr_left (g := fun i => ks.getD i []) fun i hi => (hc i hi).1) (map_range ks [] _ rfl)
  rcases hp with ⟨q0, q1, q2, q3⟩ | ⟨q0, q1, q2, q3, _, _⟩
  · simp only at q0 q1 q2
    subst q0
    have e2 : List.map (pval ∘ cell ⟨true, ks, vs, zs⟩) (List.range ks.length) = vs := by
      refine Eq.trans (List.map_congr_left (g := fun i => vs.getD i []) fun i hi => (hc i hi).2.2.1 rfl) (map_range vs [] _ q1.symm)
    have e3 : zs = [] := List.eq_nil_of_length_eq_zero q2
    rw [e1, e2, e3]; rfl
  · simp only at q0 q1 q2
    subst q0
    have e2 : List.map ((fun c => (pkid c : Int)) ∘ cell ⟨false, ks, vs, zs⟩) (List.range ks.length) = zs := by
      refine Eq.trans (List.map_congr_left (g := fun i => zs.getD i 0) fun i hi => (hc i hi).2.2.2 rfl) (map_range zs 0 _ q1.symm)
    have e3 : vs = [] := List.eq_nil_of_length_eq_zero q2
    rw [e1, e2, e3]; rfl
theorem no_bad {n : Nd} (h : right n = true) : (cells n).any (pbad n.leaf) = false := by
  rw [List.any_eq_false]
  intro c hc
  obtain ⟨i, hi, rfl⟩ := List.mem_map.1 hc
  unfold pbad
  rw [(cell_read h (List.mem_range.1 hi)).2.1]
  decide
theorem page_ok {n : Nd} {no : Int} (hr : right n = true) (ht : ¬ 244 < taken n) (hno : 0 ≤ no ∧ no ≤ 2147483647) : (⟨no.toNat, kind n, cells n⟩ : M.Pg).Ok := by
  refine ⟨by show no.toNat < _; omega, ?_, ?_⟩
  · show kind n ≠ 0
    unfold kind
    split <;> decide
  · show M.taken (cells n) ≤ 244
    unfold taken at ht
    rw [if_pos hr] at ht
    omega
theorem bytes_is {n : Nd} {no : Int} (hr : right n = true) (ht : ¬ 244 < taken n) (hno : 0 ≤ no ∧ no ≤ 2147483647) : bytesP no n = M.pbytes ⟨no.toNat, kind n, cells n⟩ ∧ bytesE no n = 0 := by
  have hp := page_ok hr ht hno
  have e := M.fill_ok hp
  have e2 : ((no.toNat : Nat) : Int) = no := by omega
  simp only [e2] at e
  unfold bytesP bytesE
  rw [hr, if_neg (show ¬ (true = false) by decide), if_neg ht, if_neg (show ¬ (true = false) by decide), if_neg ht]
  exact e
/-- The law's first half: the page of a node is told as it. -/
theorem parse_put {n : Nd} {no : Int} (hr : right n = true) (ht : ¬ 244 < taken n) (hno : 0 ≤ no ∧ no ≤ 2147483647) : parse (bytesP no n) = (n, 0) := by
  have hp := page_ok hr ht hno
  rw [(bytes_is hr ht hno).1]
  unfold parse
  rw [M.kind_put hp, M.cells_put hp]
  show (if kind n ≠ 5 ∧ kind n ≠ 6 then _ else _) = _
  have hk : (kind n == 5) = n.leaf := by unfold kind; cases n.leaf <;> rfl
  rw [if_neg (by unfold kind; cases n.leaf <;> decide)]
  show (if (cells n).any (pbad (kind n == 5)) = true then _ else _) = _
  rw [hk, no_bad hr, if_neg (by decide), pnode_cells hr]
  unfold told
  rw [if_pos hr]
end N
end Go.Proofs.Ytplppnngmlljnaa

/- A text's place among texts. -/
namespace Go.Proofs.Ytplppnngmlljnaa
open Go.RowKit

set_option maxRecDepth 100000 in
theorem nan1_any (x : List UInt8) (w : World) : Calls Try.prog 88 #[.string ⟨x.toArray⟩] w (Tells (.bool false) w) := by
  go_enter Try.func88, Try.ntmps88
  go_wp2
  go_ret
  exact ⟨rfl, rfl⟩
set_option maxRecDepth 100000 in
theorem nan2_any (x : List UInt8) (w : World) : Calls Try.prog 70 #[.string ⟨x.toArray⟩] w (Tells (.bool false) w) := by
  go_enter Try.func70, Try.ntmps70
  go_wp2
  go_ret
  exact ⟨rfl, rfl⟩
set_option maxRecDepth 100000 in
theorem less_any (x y : List UInt8) (w : World) : Calls Try.prog 69 #[.string ⟨x.toArray⟩, .string ⟨y.toArray⟩] w (Tells (.bool (N.lt x y)) w) := by
  have H := nan1_any x w
  obtain ⟨z, hz⟩ : ∃ z, Op.bytesLess x y = z := ⟨_, rfl⟩
  have HZ := hid (show N.lt x y = z from hz)
  rw [HZ.out]
  go_enter Try.func69, Try.ntmps69
  cases z with
  | true =>
    go_wp2_with (go_at_call 88; refine H.mono ?_; rintro e w1 ⟨rfl, hw⟩; rw [hw]; clear hw)
    go_ret
    exact ⟨rfl, rfl⟩
  | false =>
    go_wp2_with (go_at_call 88; refine H.mono ?_; rintro e w1 ⟨rfl, hw⟩; rw [hw]; clear hw)
    go_ret
    exact ⟨rfl, rfl⟩
/-! ### Where a key stands among keys that rise -/
theorem rise_next {ks : List (List UInt8)} (h : N.keysOk ks = true) {i : Nat} (hi : i + 1 < ks.length) : N.lt (ks.getD i []) (ks.getD (i + 1) []) = true := by
  unfold N.keysOk at h
  rw [List.all_eq_true] at h
  have h2 := h (i + 1) (List.mem_range.2 hi)
  unfold N.badAt at h2
  simp only [Bool.not_eq_true', Bool.or_eq_false_iff, Bool.and_eq_false_imp, decide_eq_true_eq] at h2
  have := h2.2 (by omega)
  simpa using this
theorem rise_lt {ks : List (List UInt8)} (h : N.keysOk ks = true) {i : Nat} : ∀ {j : Nat}, i < j → j < ks.length → N.lt (ks.getD i []) (ks.getD j []) = true
  | 0, h1, _ => by omega
  | j + 1, h1, h2 => by
    rcases Nat.lt_or_eq_of_le (Nat.le_of_lt_succ h1) with q | q
    · exact N.lt_trans (rise_lt h q (by omega)) (rise_next h h2)
    · subst q; exact rise_next h h2
/-- The place is told by what stands ahead of it and behind. -/
theorem lb_is (ks : List (List UInt8)) (key : List UInt8) : ∀ (i : Nat), i ≤ ks.length → (∀ t, t < i → N.lt (ks.getD t []) key = true) → (i < ks.length → N.lt (ks.getD i []) key = false) → N.lb ks key = i := by
  unfold N.lb
  induction ks with
  | nil => intro i hi _ _; have : i = 0 := by simpa using hi
           rw [this]; rfl
  | cons k l ih =>
    intro i hi h1 h2
    cases i with
    | zero =>
      have q := h2 (by simp)
      have q' : N.lt k key = false := q
      rw [List.takeWhile_cons, q']; rfl
    | succ i =>
      have q := h1 0 (by omega)
      have q' : N.lt k key = true := q
      rw [List.takeWhile_cons, if_pos q', List.length_cons, ih i (by simpa using hi) (fun t ht => by simpa using h1 (t + 1) (by omega)) (fun h => by simpa using h2 (by simpa using h))]
theorem lb_le (ks : List (List UInt8)) (key : List UInt8) : N.lb ks key ≤ ks.length := by
  unfold N.lb
  exact (List.takeWhile_prefix _).length_le
theorem isAt_eq {ks : List (List UInt8)} {key : List UInt8} : N.isAt ks key = (decide (N.lb ks key < ks.length) && (ks.getD (N.lb ks key) [] == key)) := by
  unfold N.isAt
  by_cases h : N.lb ks key < ks.length
  · rw [List.getElem?_eq_getElem h, List.getD_eq_getElem?_getD, List.getElem?_eq_getElem h]
    simp [h]
  · rw [List.getElem?_eq_none (by omega)]
    simp [h]
set_option maxRecDepth 100000 in
set_option maxHeartbeats 4000000 in
theorem binS_any (a : Option Addr) (ks : List (List UInt8)) (n cap : Nat) (key : List UInt8) (w : World) {Q : Nat → Prop} (hn : n = ks.length) (hn9 : n ≤ 1000) (hk : N.keysOk ks = true) (h : CQ w Q a (Ss ks)) :
    Calls Try.prog 38 #[.slice a n cap, .string ⟨key.toArray⟩] w (Tells (.tuple #[.int .i64 (N.lb ks key : Int), .bool (N.isAt ks key)]) w) := by
  have HN := hid hn
  have HK := hid hk
  have HQ := hid (fun (i : Nat) (hi : i < n) => show ∃ b o, a = some ⟨b, o, none⟩ ∧ w.cell? ⟨b, o + i, none⟩ = some (.string ⟨(ks.getD i []).toArray⟩) by
    rw [hn] at hi
    obtain ⟨b, o, e, _, hc⟩ := h i (Str (ks.getD i [])) (by rw [Ss_get, List.getElem?_eq_getElem hi, List.getD_eq_getElem?_getD, List.getElem?_eq_getElem hi]; rfl)
    exact ⟨b, o, e, hc⟩)
  obtain ⟨lb, hlb⟩ : ∃ lb, lb = N.lb ks key := ⟨_, rfl⟩
  have HLb := hid hlb
  obtain ⟨ia, hia⟩ : ∃ ia, ia = N.isAt ks key := ⟨_, rfl⟩
  have HIa := hid hia
  rw [← hlb, ← hia]
  clear hn hk h hlb hia
  go_enter Try.func38, Try.ntmps38
  go_wp2_with fail
  go_loopw [7, 8] (fun lo hi wx => ∃ i j : Nat, i ≤ j ∧ j ≤ n ∧ lo = .int .i64 (i : Int) ∧ hi = .int .i64 (j : Int) ∧ wx = w ∧ Hid ((∀ t, t < i → N.lt (ks.getD t []) key = true) ∧ (j < n → N.lt (ks.getD j []) key = false))) (fun lo hi _ => (intOf hi).toNat - (intOf lo).toNat)
  case atStart => exact ⟨0, n, Nat.zero_le _, Nat.le_refl _, rfl, rfl, rfl, fun t h => by omega, fun h => by omega⟩
  case round =>
    obtain ⟨i, j, hij, hjn, rfl, rfl, hwx, HI⟩ := hrel
    rw [hwx]
    clear hwx
    by_cases hlt : i < j
    · have hlz : (i : Int) < (j : Int) := by omega
      obtain ⟨m, hm⟩ : ∃ m, m = (i + j) / 2 := ⟨_, rfl⟩
      have hm1 : i ≤ m ∧ m < j := by omega
      obtain ⟨b, o, ea, hc⟩ := HQ.out m (by omega)
      obtain ⟨k, hk⟩ : ∃ k, k = ks.getD m [] := ⟨_, rfl⟩
      rw [← hk] at hc
      have HKk := hid hk
      obtain ⟨z, hz⟩ : ∃ z, z = N.lt k key := ⟨_, rfl⟩
      have HZ := hid hz
      have HLs := hid (show Calls Try.prog 69 #[.string ⟨k.toArray⟩, .string ⟨key.toArray⟩] w (Tells (.bool z) w) by rw [hz]; exact less_any k key w)
      have hsh : ((i : Int) + (j : Int)) / 2 = (m : Int) := by omega
      subst ea
      have HM := hid hm
      clear hk hz hm
      cases z with
      | true =>
        go_wp2_with (go_at_call 69; refine HLs.out.mono ?_; rintro e w1 ⟨rfl, hw⟩; rw [hw]; clear hw)
        go_roundw
        case rel =>
          refine ⟨m + 1, j, by omega, hjn, by go_num, rfl, by trivial, fun t ht => ?_, HI.out.2⟩
          rcases Nat.lt_or_eq_of_le (Nat.le_of_lt_succ ht) with q | q
          · exact N.lt_trans (rise_lt HK.out q (by rw [← HN.out]; omega)) (by rw [← HKk.out]; exact HZ.out.symm)
          · rw [q, ← HKk.out]; exact HZ.out.symm
        case measure => simp [intOf]; omega
      | false =>
        go_wp2_with (go_at_call 69; refine HLs.out.mono ?_; rintro e w1 ⟨rfl, hw⟩; rw [hw]; clear hw)
        go_roundw
        case rel => exact ⟨i, m, hm1.1, by omega, rfl, rfl, by trivial, HI.out.1, fun _ => by rw [← HKk.out]; exact HZ.out.symm⟩
        case measure => simp [intOf]; omega
    · obtain rfl : i = j := by omega
      have hlz : ¬ (i : Int) < (i : Int) := by omega
      have HEi := hid (show i = lb by rw [HLb.out]; exact (lb_is ks key i (by rw [← HN.out]; exact hjn) HI.out.1 (fun h => HI.out.2 (by rw [HN.out]; exact h))).symm)
      by_cases hin : i < n
      · have hinz : (i : Int) < (n : Int) := by omega
        obtain ⟨b, o, ea, hc⟩ := HQ.out i hin
        obtain ⟨k, hk⟩ : ∃ k, k = ks.getD i [] := ⟨_, rfl⟩
        rw [← hk] at hc
        have HN2 := nan2_any k w
        have HN3 := nan2_any key w
        obtain ⟨z, hz⟩ : ∃ z, (k == key) = z := ⟨_, rfl⟩
        have HIz := hid (show ia = z by
          rw [HIa.out, isAt_eq, ← HLb.out, ← HEi.out, ← hk, hz, ← HN.out, decide_eq_true hin]; rfl)
        subst ea
        clear hk hin
        cases z with
        | true =>
          go_wp2_with (first
            | (go_at_call 70; refine HN2.mono ?_; rintro e w1 ⟨rfl, hw⟩; rw [hw]; clear hw)
            | (go_at_call 70; refine HN3.mono ?_; rintro e w1 ⟨rfl, hw⟩; rw [hw]; clear hw))
          go_ret2
          have e1 := HIz.out
          have e2 := HEi.out
          subst e1
          subst e2
          exact ⟨rfl, rfl⟩
        | false =>
          go_wp2_with (first
            | (go_at_call 70; refine HN2.mono ?_; rintro e w1 ⟨rfl, hw⟩; rw [hw]; clear hw)
            | (go_at_call 70; refine HN3.mono ?_; rintro e w1 ⟨rfl, hw⟩; rw [hw]; clear hw))
          go_ret2
          have e1 := HIz.out
          have e2 := HEi.out
          subst e1
          subst e2
          exact ⟨rfl, rfl⟩
      · have hinz : ¬ (i : Int) < (n : Int) := by omega
        have HIz := hid (show ia = false by rw [HIa.out, isAt_eq, ← HLb.out, ← HEi.out, ← HN.out, decide_eq_false hin]; rfl)
        clear hin
        go_wp2_with fail
        go_ret2
        have e1 := HIz.out
        have e2 := HEi.out
        subst e1
        subst e2
        exact ⟨rfl, rfl⟩
end Go.Proofs.Ytplppnngmlljnaa

/- A key's place in a node. -/
namespace Go.Proofs.Ytplppnngmlljnaa
open Go.RowKit

theorem lb_pos {ks : List (List UInt8)} {key : List UInt8} (h0 : 0 < ks.length) (h1 : ks.getD 0 [] = []) (h : N.isAt ks key = false) : 0 < N.lb ks key := by
  cases key with
  | nil =>
    exfalso
    have q : N.lb ks [] = 0 := lb_is ks [] 0 (Nat.zero_le _) (fun t ht => by omega) (fun _ => N.lt_nil _)
    rw [isAt_eq, q, decide_eq_true h0, h1] at h
    simp at h
  | cons c l =>
    cases hb : N.lb ks (c :: l) with
    | succ n => exact Nat.succ_pos n
    | zero =>
      exfalso
      cases ks with
      | nil => cases h0
      | cons k ks =>
        have e : k = [] := h1
        subst e
        have q : N.lt [] (c :: l) = true := rfl
        unfold N.lb at hb
        rw [List.takeWhile_cons, if_pos q, List.length_cons] at hb
        omega
set_option maxRecDepth 100000 in
set_option maxHeartbeats 4000000 in
theorem nfind_any (x : NM) (key : List UInt8) (w : World) {Q : Nat → Prop} (hx : NQ w Q x) (sx : NS x) : Calls Try.prog 13 #[x.val, .string ⟨key.toArray⟩] w (Adding (.tuple #[.int .i64 (N.findI x.nd key), .bool (N.findB x.nd key)]) w) := by
  obtain ⟨r, hr⟩ : ∃ r, r = N.right x.nd := ⟨_, rfl⟩
  obtain ⟨N0, w1, hN0, hw1, HA1, _, b0, b1, b2, b3⟩ := nbox w x.leaf x.kv x.vv x.iv
  have HC := hid (show Calls Try.prog 15 #[x.val] w1 (Adding (.bool r) w1) by rw [hr]; exact nright_any x w1 (hx.adds HA1.out) sx)
  have HR := hid hr
  have HB := hid (fun w' (hA : Adds w w') (hr' : N.right x.nd = true) => show Calls Try.prog 38 #[.slice x.ka x.ks.length x.kc, .string ⟨key.toArray⟩] w' (Tells (.tuple #[.int .i64 (N.lb x.ks key : Int), .bool (N.isAt x.ks key)]) w') from
    binS_any x.ka x.ks x.ks.length x.kc key w' rfl sx.k (right_parts hr').1 (hx.keys.adds hA))
  have HLe := hid (show N.lb x.ks key ≤ 1000 from Nat.le_trans (lb_le x.ks key) sx.k)
  unfold NM.val NM.kv NM.vv NM.iv at *
  clear hx sx hr
  go_enter Try.func13, Try.ntmps13
  go_upto_region 1 with fail
  rw [← hw1, ← hN0]
  clear hw1 hN0
  cases r with
  | false =>
    have HE := hid (show N.findI x.nd key = 0 ∧ N.findB x.nd key = false from ⟨by unfold N.findI; rw [← HR.out]; rfl, by unfold N.findB; rw [← HR.out]; rfl⟩)
    go_wp2_with (go_at_call 15; refine HC.out.mono ?_; rintro e w2 ⟨rfl, hA2⟩; have H2 := hid hA2; clear hA2)
    go_ret2
    rw [HE.out.1, HE.out.2]
    exact ⟨rfl, HA1.out.trans H2.out⟩
  | true =>
    obtain ⟨lb, hlb⟩ : ∃ lb, lb = N.lb x.ks key := ⟨_, rfl⟩
    obtain ⟨ia, hia⟩ : ∃ ia, ia = N.isAt x.ks key := ⟨_, rfl⟩
    rw [← hlb] at HB HLe
    rw [← hia] at HB
    have hl9 : lb ≤ 1000 := HLe.out
    have HFb := hid (show N.findB x.nd key = ia by unfold N.findB; rw [← HR.out, hia]; rfl)
    have HFi := hid (show N.findI x.nd key = if x.leaf = false ∧ ia = false then (lb : Int) - 1 else lb by unfold N.findI; rw [← HR.out, if_neg (by decide), hia, hlb]; rfl)
    have HPos := hid (show x.leaf = false → ia = false → 0 < lb from fun h1 h2 => by
      rw [hlb]
      rcases (right_parts HR.out.symm).2 with ⟨q0, _⟩ | ⟨_, _, _, _, q1, q2⟩
      · rw [show x.leaf = true from q0] at h1; cases h1
      · exact lb_pos q1 q2 (by rw [← hia]; exact h2))
    clear hlb hia
    go_upto_region 3 with (go_at_call 15; refine HC.out.mono ?_; rintro e w2 ⟨rfl, hA2⟩; have H2 := hid hA2; have q0 := below_adds hA2 b0; have q1 := below_adds hA2 b1; clear hA2)
    have HB2 := hid (HB.out w2 (HA1.out.trans H2.out) HR.out.symm)
    clear b0 b1 b2 b3
    cases hlf : x.leaf with
    | true =>
      rw [hlf] at q0
      go_wp2_with (go_at_call 38; refine HB2.out.mono ?_; rintro e w3 ⟨rfl, hw⟩; rw [hw]; clear hw)
      go_ret2
      rw [HFb.out, HFi.out, if_neg (by rw [hlf]; simp)]
      exact ⟨rfl, HA1.out.trans H2.out⟩
    | false =>
      rw [hlf] at q0
      cases ia with
      | true =>
        go_wp2_with (go_at_call 38; refine HB2.out.mono ?_; rintro e w3 ⟨rfl, hw⟩; rw [hw]; clear hw)
        go_ret2
        rw [HFb.out, HFi.out, if_neg (by simp)]
        exact ⟨rfl, HA1.out.trans H2.out⟩
      | false =>
        have hp := HPos.out hlf rfl
        go_wp2_with (go_at_call 38; refine HB2.out.mono ?_; rintro e w3 ⟨rfl, hw⟩; rw [hw]; clear hw)
        go_ret2
        rw [HFb.out, HFi.out, if_pos (by simp [hlf])]
        exact ⟨rfl, HA1.out.trans H2.out⟩
end Go.Proofs.Ytplppnngmlljnaa

/- A node's page. -/
namespace Go.Proofs.Ytplppnngmlljnaa
open Go.RowKit

theorem box_range {w : World} {N : Nat} {a b c d : Value} {t : TypeId} (h : w.heap[N]? = some (.cells #[a, b, c, d] t)) : w.rangeAt N 0 [a, b, c, d] := fun j v hv => by
  rw [Nat.zero_add, cellOf h]
  simpa using hv
set_option maxRecDepth 100000 in
set_option maxHeartbeats 4000000 in
theorem nbytes_any (x : NM) (no : Int) (w : World) {Q : Nat → Prop} (hx : NQ w Q x) (sx : NS x) : Calls Try.prog 11 #[.int .i64 no, x.val] w (PTold w (N.bytesP no x.nd) (N.bytesE no x.nd)) := by
  obtain ⟨r, hr⟩ : ∃ r, r = N.right x.nd := ⟨_, rfl⟩
  obtain ⟨N0, w1, hN0, hw1, HA1, _, b0, b1, b2, b3⟩ := nbox w x.leaf x.kv x.vv x.iv
  have HB1 := hid (show w1.heap[N0]? = some (.cells #[.bool x.leaf, x.kv, x.vv, x.iv] 28 (0, 0)) by rw [hw1, hN0]; exact heap_alloc_new w _)
  have HC := hid (show Calls Try.prog 15 #[x.val] w1 (Adding (.bool r) w1) by rw [hr]; exact nright_any x w1 (hx.adds HA1.out) sx)
  obtain ⟨ft, hft⟩ : ∃ ft, ft = (N.right x.nd && decide (N.taken x.nd ≤ 244)) := ⟨_, rfl⟩
  have HF := hid (fun w' (hA : Adds w w') => show Calls Try.prog 19 #[x.val] w' (Adding (.bool ft) w') by rw [hft]; exact nfits_any x w' (hx.adds hA) sx)
  have HR := hid hr
  have HFt := hid hft
  obtain ⟨kd, hkd⟩ : ∃ kd, kd = N.kind x.nd := ⟨_, rfl⟩
  obtain ⟨cn, hcn⟩ : ∃ cn, cn = (N.cells x.nd).length := ⟨_, rfl⟩
  have HKd := hid hkd
  have HX := hid hx
  have HSx := hid sx
  have HCn := hid hcn
  unfold NM.val NM.kv NM.vv NM.iv at *
  clear hx sx hr hft hkd hcn
  go_enter Try.func11, Try.ntmps11
  go_upto_region 1 with fail
  rw [← hw1, ← hN0]
  clear hw1 hN0
  cases r with
  | false =>
    have HE := hid (show N.bytesP no x.nd = [] ∧ N.bytesE no x.nd = 22 from ⟨by unfold N.bytesP; rw [← HR.out]; rfl, by unfold N.bytesE; rw [← HR.out]; rfl⟩)
    go_wp2_with (go_at_call 15; refine HC.out.mono ?_; rintro e w2 ⟨rfl, hA2⟩; have H2 := hid hA2; clear hA2)
    go_ret2
    exact PTold.nil (HA1.out.trans H2.out) HE.out.1 (by rw [HE.out.2]; rfl)
  | true =>
    cases ft with
    | false =>
      have HE := hid (show N.bytesP no x.nd = [] ∧ N.bytesE no x.nd = 32 by
        have q := HFt.out
        rw [← HR.out, Bool.true_and] at q
        have q2 : ¬ N.taken x.nd ≤ 244 := of_decide_eq_false q.symm
        exact ⟨by unfold N.bytesP; rw [← HR.out, if_neg (by decide), if_pos (by omega)], by unfold N.bytesE; rw [← HR.out, if_neg (by decide), if_pos (by omega)]⟩)
      go_wp2_with (first
        | (go_at_call 15; refine HC.out.mono ?_; rintro e w2 ⟨rfl, hA2⟩; have H2 := hid hA2; have q0 := below_adds hA2 b0; have q1 := below_adds hA2 b1; have q2 := below_adds hA2 b2; have q3 := below_adds hA2 b3; clear hA2)
        | (go_at_call 19; refine (HF.out w2 (HA1.out.trans H2.out)).mono ?_; rintro e w3 ⟨rfl, hA3⟩; have H3 := hid hA3; clear hA3))
      go_ret2
      exact PTold.nil ((HA1.out.trans H2.out).trans H3.out) HE.out.1 (by rw [HE.out.2]; rfl)
    | true =>
      have HE := hid (show N.bytesP no x.nd = M.fillP no kd (N.cells x.nd) ∧ N.bytesE no x.nd = M.fillE no kd (N.cells x.nd) by
        have q := HFt.out
        rw [← HR.out, Bool.true_and] at q
        have q2 : N.taken x.nd ≤ 244 := of_decide_eq_true q.symm
        rw [HKd.out]
        exact ⟨by unfold N.bytesP; rw [← HR.out, if_neg (by decide), if_neg (by omega)], by unfold N.bytesE; rw [← HR.out, if_neg (by decide), if_neg (by omega)]⟩)
      go_upto_region 5 with (first
        | (go_at_call 15; refine HC.out.mono ?_; rintro e w2 ⟨rfl, hA2⟩; have H2 := hid hA2; have q0 := below_adds hA2 b0; have q1 := below_adds hA2 b1; have q2 := below_adds hA2 b2; have q3 := below_adds hA2 b3; clear hA2)
        | (go_at_call 19; refine (HF.out w2 (HA1.out.trans H2.out)).mono ?_; rintro e w3 ⟨rfl, hA3⟩; have H3 := hid hA3; clear hA3))
      have HA3 := hid ((HA1.out.trans H2.out).trans H3.out)
      have HB3 := hid (box_adds HB1.out (H2.out.trans H3.out))
      clear q0 q1 q2 q3 b0 b1 b2 b3 HC HF
      have HK := hid (fun W (hA : Adds w3 W) => show Calls Try.prog 34 #[.agg #[.bool x.leaf, .slice x.ka x.ks.length x.kc, .slice x.v.a x.v.l.length x.v.cap, .slice x.ia x.is.length x.ic]] W (Adding (.int .u8 (kd.toNat : Int)) W) by rw [HKd.out]; exact kindOf_any x W)
      have HCc := hid (fun W (hA : Adds w3 W) => show Calls Try.prog 35 #[.agg #[.bool x.leaf, .slice x.ka x.ks.length x.kc, .slice x.v.a x.v.l.length x.v.cap, .slice x.ia x.is.length x.ic]] W (fun e w' => ∃ ca cc, ∃ hs : List Part, e = .returned (.slice ca cn cc) ∧ Hid (hs.map (·.bs) = N.cells x.nd ∧ GQ w' (fun k => W.heap.size ≤ k) ⟨ca, cc, hs⟩ ∧ Adds W w' ∧ cn ≤ cc)) by
        rw [HCn.out]; exact ncells_any x W (HX.out.adds (HA3.out.trans hA)) HSx.out HR.out.symm)
      obtain ⟨fn, hfn⟩ : ∃ fn, fn = (N.bytesP no x.nd).length := ⟨_, rfl⟩
      obtain ⟨fe, hfe⟩ : ∃ fe, fe = N.bytesE no x.nd := ⟨_, rfl⟩
      have HFl := hid (fun (W : World) (ca : Option Addr) (cc : Nat) (hs : List Part) (Q9 : Nat → Prop) (hm : hs.map (·.bs) = N.cells x.nd) (hg : GQ W Q9 ⟨ca, cc, hs⟩) => show Calls Try.prog 33 #[.int .i64 no, .int .u8 (kd.toNat : Int), .slice ca cn cc] W (fun e w' => ∃ a cap, e = .returned (.tuple #[.slice a fn cap, .int .i64 (fe : Int)]) ∧ Hid (At w' a (N.bytesP no x.nd) ∧ fn ≤ cap ∧ ((a = none → cap = 0) ∧ ∀ b o, a = some ⟨b, o, none⟩ → W.heap.size ≤ b) ∧ Adds W w')) by
        have hl : hs.length = cn := by rw [HCn.out, ← hm, List.length_map]
        have q := gfill_any no kd ca hs cn cc hl W (hg.mono (fun _ _ _ => trivial)) (fun p hp => by
          have h1 : p.bs ∈ N.cells x.nd := by rw [← hm]; exact List.mem_map.2 ⟨p, hp, rfl⟩
          have := cells_all HR.out.symm _ h1
          omega) (by have h1 := HSx.out.k; have h2 : cn = x.ks.length := by rw [HCn.out, len_cells]; rfl
                     omega)
        rw [hm, ← HE.out.1, ← HE.out.2, ← hfe] at q
        unfold PTold at q
        rw [← hfn] at q
        exact q)
      have HFn := hid (And.intro hfn hfe)
      clear hfn hfe
      refine H_begin (S := fun W : World => Adds w3 W) (by kernel_rfl) ?_
      have hS : (fun W : World => Adds w3 W) w3.drew := adds_dr w3
      refine H_put (i := 0) 14 (v := .int .i64 no) rfl rfl (by kernel_rfl) (by kernel_rfl) (by kernel_rfl) (fun _ _ _ h => h) (Or.inl ⟨by rfl, fun w' hw' => ?_⟩) hS ?_
      · go_simp
      simp only [Act.put, List.setIfInBounds_toArray, List.set_cons_zero, List.set_cons_succ]
      refine H_put (i := 1) 15 (v := .agg #[.bool x.leaf, .slice x.ka x.ks.length x.kc, .slice x.v.a x.v.l.length x.v.cap, .slice x.ia x.is.length x.ic]) rfl rfl (by kernel_rfl) (by kernel_rfl) (by kernel_rfl) (fun _ _ _ h => h) (yieldsIf_load_mid (by rfl) 28 (.tmp 3) rfl N0 0 rfl [.bool x.leaf, .slice x.ka x.ks.length x.kc, .slice x.v.a x.v.l.length x.v.cap, .slice x.ia x.is.length x.ic] _ (fun w' hw' => box_range (box_adds HB3.out hw')) Try.underlying28 rfl (info4 _ _ _ _)) hS ?_
      simp only [Act.put, List.setIfInBounds_toArray, List.set_cons_zero, List.set_cons_succ]
      refine H_put (i := 3) 17 (v := .agg #[.bool x.leaf, .slice x.ka x.ks.length x.kc, .slice x.v.a x.v.l.length x.v.cap, .slice x.ia x.is.length x.ic]) rfl rfl (by kernel_rfl) (by kernel_rfl) (by kernel_rfl) (fun _ _ _ h => h) (yieldsIf_load_mid (by rfl) 28 (.tmp 3) rfl N0 0 rfl [.bool x.leaf, .slice x.ka x.ks.length x.kc, .slice x.v.a x.v.l.length x.v.cap, .slice x.ia x.is.length x.ic] _ (fun w' hw' => box_range (box_adds HB3.out hw')) Try.underlying28 rfl (info4 _ _ _ _)) hS ?_
      simp only [Act.put, List.setIfInBounds_toArray, List.set_cons_zero, List.set_cons_succ]
      refine H_call (i := 2) 16 34 #[.agg #[.bool x.leaf, .slice x.ka x.ks.length x.kc, .slice x.v.a x.v.l.length x.v.cap, .slice x.ia x.is.length x.ic]] (by kernel_rfl) rfl rfl (by rfl) (by go_simp) (HK.out _ hS) ?_
      rintro e w4 ⟨rfl, hA4⟩
      have H4 := hid ((adds_dr w3).trans hA4)
      clear hA4
      have hS2 : (fun W : World => Adds w3 W) _ := H4.out
      refine ⟨_, _, rfl, hS2, fun w' h => h, ?_⟩
      clear hS; have hS := hS2; clear hS2
      simp only [Act.put, List.setIfInBounds_toArray, List.set_cons_zero, List.set_cons_succ]
      refine H_call (i := 4) 18 35 #[.agg #[.bool x.leaf, .slice x.ka x.ks.length x.kc, .slice x.v.a x.v.l.length x.v.cap, .slice x.ia x.is.length x.ic]] (by kernel_rfl) rfl rfl (by rfl) (by go_simp) (HCc.out _ hS) ?_
      rintro e w5 ⟨ca, cc, hs, rfl, H5⟩
      have H5b := hid (H4.out.trans H5.out.2.2.1)
      have hS2 : (fun W : World => Adds w3 W) _ := H5b.out
      refine ⟨_, _, rfl, hS2, fun w' h => h, ?_⟩
      clear hS; have hS := hS2; clear hS2
      simp only [Act.put, List.setIfInBounds_toArray, List.set_cons_zero, List.set_cons_succ]
      refine H_call (i := 5) 19 33 #[.int .i64 no, .int .u8 (kd.toNat : Int), .slice ca cn cc] (by kernel_rfl) rfl rfl (by rfl) (by go_simp) (HFl.out w5 ca cc hs _ H5.out.1 H5.out.2.1) ?_
      rintro e w6 ⟨fa, fc, rfl, H6⟩
      have H6b := hid (H5b.out.trans H6.out.2.2.2)
      have hS2 : (fun W : World => Adds w3 W) _ := H6b.out
      refine ⟨_, _, rfl, hS2, fun w' h => h, ?_⟩
      clear hS; have hS := hS2; clear hS2
      simp only [Act.put, List.setIfInBounds_toArray, List.set_cons_zero, List.set_cons_succ]
      refine H_put (i := 6) 20 (v := .slice fa fn fc) rfl rfl (by kernel_rfl) (by kernel_rfl) (by kernel_rfl) (fun _ _ _ h => h) (Or.inl ⟨by rfl, fun w' hw' => ?_⟩) hS ?_
      · go_simp
      simp only [Act.put, List.setIfInBounds_toArray, List.set_cons_zero, List.set_cons_succ]
      refine H_put (i := 7) 21 (v := .int .i64 (fe : Int)) rfl rfl (by kernel_rfl) (by kernel_rfl) (by kernel_rfl) (fun _ _ _ h => h) (Or.inl ⟨by rfl, fun w' hw' => ?_⟩) hS ?_
      · go_simp
      simp only [Act.put, List.setIfInBounds_toArray, List.set_cons_zero, List.set_cons_succ]
      refine H_put (i := 8) 4 (v := .slice fa fn fc) rfl rfl (by kernel_rfl) (by kernel_rfl) (by kernel_rfl) (fun _ _ _ h => h) (Or.inl ⟨by rfl, fun w' hw' => ?_⟩) hS ?_
      · go_simp
      simp only [Act.put, List.setIfInBounds_toArray, List.set_cons_zero, List.set_cons_succ]
      refine H_put (i := 9) 5 (v := .int .i64 (fe : Int)) rfl rfl (by kernel_rfl) (by kernel_rfl) (by kernel_rfl) (fun _ _ _ h => h) (Or.inl ⟨by rfl, fun w' hw' => ?_⟩) hS ?_
      · go_simp
      simp only [Act.put, List.setIfInBounds_toArray, List.set_cons_zero, List.set_cons_succ]
      refine wpAnyH_done (by kernel_rfl) ?_ _
      clear hS
      go_wp2_with fail
      go_ret2
      have e1 := HFn.out.1
      have e2 := HFn.out.2
      subst e1
      subst e2
      exact ⟨fa, fc, rfl, H6.out.1, H6.out.2.1, ⟨H6.out.2.2.1.1, fun b o h => Nat.le_trans (HA3.out.trans H5b.out).size (H6.out.2.2.1.2 b o h)⟩, HA3.out.trans H6b.out⟩
end Go.Proofs.Ytplppnngmlljnaa

/- Whether two nodes are alike. -/
namespace Go.Proofs.Ytplppnngmlljnaa
open Go.RowKit

def N.same (x y : N.Nd) : Bool := ((x.leaf == y.leaf) && (x.keys == y.keys)) && ((x.vals == y.vals) && (x.kids == y.kids))
theorem N.same_refl (x : N.Nd) : N.same x x = true := by simp [N.same]
theorem N.same_eq {x y : N.Nd} (h : x = y) : N.same x y = true := by rw [h]; exact N.same_refl y
theorem N.same_k {x y : N.Nd} (h : x.keys ≠ y.keys) : N.same x y = false := by
  have : (x.keys == y.keys) = false := by simpa using h
  simp [N.same, this]
theorem N.same_v {x y : N.Nd} (h : x.vals ≠ y.vals) : N.same x y = false := by
  have : (x.vals == y.vals) = false := by simpa using h
  simp [N.same, this]
theorem N.same_i {x y : N.Nd} (h : x.kids ≠ y.kids) : N.same x y = false := by
  have : (x.kids == y.kids) = false := by simpa using h
  simp [N.same, this]
theorem N.same_l {x y : N.Nd} (h : x.leaf ≠ y.leaf) : N.same x y = false := by
  have : (x.leaf == y.leaf) = false := by simpa using h
  simp [N.same, this]
theorem ext_all {α : Type} {l m : List α} (hl : l.length = m.length) (h : ∀ t (a : t < l.length) (b : t < m.length), l[t] = m[t]) : l = m := List.ext_getElem hl h
theorem conv_dn (w : World) (m : Nat) {a : Option Addr} {bs : List UInt8} {n cap : Nat} (h : At w a bs) (hn : n = bs.length) : (convert 30 9 (.slice a n cap)).run Try.prog (w.drewN m) = .ok (.string ⟨bs.toArray⟩) (w.drewN m) := by
  subst hn
  exact conv_at (w.drewN m) a bs cap (h.adds ⟨rfl, rfl, rfl, Nat.le_refl _, fun _ _ _ => rfl⟩)
theorem adds_dn (w : World) (m : Nat) : Adds w (w.drewN m) := ⟨rfl, rfl, rfl, Nat.le_refl _, fun _ _ _ => rfl⟩
set_option maxRecDepth 100000 in
set_option maxHeartbeats 8000000 in
theorem same_any (x y : NM) (w : World) {Q Q' : Nat → Prop} (hx : NQ w Q x) (hy : NQ w Q' y) (sx : NS x) (sy : NS y) : Calls Try.prog 20 #[x.val, y.val] w (Adding (.bool (N.same x.nd y.nd)) w) := by
  have HX := hid hx
  have HY := hid hy
  obtain ⟨xl, xka, xkc, xks, xg, xia, xic, xzs⟩ := x
  obtain ⟨yl, yka, ykc, yks, yg, yia, yic, yzs⟩ := y
  obtain ⟨r, hr⟩ : ∃ r, r = N.same (NM.nd ⟨xl, xka, xkc, xks, xg, xia, xic, xzs⟩) (NM.nd ⟨yl, yka, ykc, yks, yg, yia, yic, yzs⟩) := ⟨_, rfl⟩
  have HR := hid hr
  rw [← hr]
  clear hr
  have HBx := hid (show xg.bs.length = xg.l.length ∧ yg.bs.length = yg.l.length from ⟨List.length_map _, List.length_map _⟩)
  have s1 : xks.length ≤ 1000 := sx.k
  have s2 : yks.length ≤ 1000 := sy.k
  have s3 : xg.l.length ≤ 1000 := sx.v
  have s4 : yg.l.length ≤ 1000 := sy.v
  have s5 : xzs.length ≤ 1000 := sx.i
  have s6 : yzs.length ≤ 1000 := sy.i
  unfold NM.val NM.kv NM.vv NM.iv
  simp only []
  obtain ⟨xkn, h1⟩ : ∃ n, n = xks.length := ⟨_, rfl⟩
  obtain ⟨ykn, h2⟩ : ∃ n, n = yks.length := ⟨_, rfl⟩
  obtain ⟨xvn, h3⟩ : ∃ n, n = xg.l.length := ⟨_, rfl⟩
  obtain ⟨yvn, h4⟩ : ∃ n, n = yg.l.length := ⟨_, rfl⟩
  obtain ⟨xzn, h5⟩ : ∃ n, n = xzs.length := ⟨_, rfl⟩
  obtain ⟨yzn, h6⟩ : ∃ n, n = yzs.length := ⟨_, rfl⟩
  obtain ⟨xva, h7⟩ : ∃ a, a = xg.a := ⟨_, rfl⟩
  obtain ⟨yva, h8⟩ : ∃ a, a = yg.a := ⟨_, rfl⟩
  simp only [← h1, ← h2, ← h3, ← h4, ← h5, ← h6, ← h7, ← h8] at s1 s2 s3 s4 s5 s6 ⊢
  have HL := hid (show xkn = xks.length ∧ ykn = yks.length ∧ xvn = xg.l.length ∧ yvn = yg.l.length ∧ xzn = xzs.length ∧ yzn = yzs.length ∧ xva = xg.a ∧ yva = yg.a from ⟨h1, h2, h3, h4, h5, h6, h7, h8⟩)
  clear h1 h2 h3 h4 h5 h6 h7 h8 hx hy sx sy
  obtain ⟨N0, hN0⟩ : ∃ N0, N0 = w.heap.size := ⟨_, rfl⟩
  obtain ⟨N1, hN1⟩ : ∃ N1, N1 = N0 + 1 := ⟨_, rfl⟩
  obtain ⟨w3, hw3⟩ : ∃ w3, w3 = (w.alloc (.cells #[.bool xl, .slice xka xkn xkc, .slice xva xvn xg.cap, .slice xia xzn xic] 26)).alloc (.cells #[.bool yl, .slice yka ykn ykc, .slice yva yvn yg.cap, .slice yia yzn yic] 26) := ⟨_, rfl⟩
  have HA3 := hid (show Adds w w3 by rw [hw3]; exact ((Touch.refl _ w).alloc _).alloc _)
  have HB0 := hid (show w3.heap[N0]? = some (.cells #[.bool xl, .slice xka xkn xkc, .slice xva xvn xg.cap, .slice xia xzn xic] 26) by rw [hw3, hN0]; exact box_adds (heap_alloc_new w _) ((Touch.refl _ _).alloc _))
  have HB1 := hid (show w3.heap[N1]? = some (.cells #[.bool yl, .slice yka ykn ykc, .slice yva yvn yg.cap, .slice yia yzn yic] 26) by
    rw [hw3, hN1, hN0, ← show (w.alloc (.cells #[.bool xl, .slice xka xkn xkc, .slice xva xvn xg.cap, .slice xia xzn xic] 26)).heap.size = w.heap.size + 1 by simp]
    exact heap_alloc_new _ _)
  go_enter Try.func20, Try.ntmps20
  go_upto_region 1 with fail
  rw [← hw3, ← hN0, ← hN1]
  clear hw3 hN0 hN1
  obtain ⟨b0, b1, b2, b3⟩ := box_cells HB0.out
  obtain ⟨e0, e1, e2, e3⟩ := box_cells HB1.out
  by_cases hl : xl = yl
  · subst hl
    by_cases hk : xkn = ykn
    · subst hk
      by_cases hv : xvn = yvn
      · subst hv
        by_cases hz : xzn = yzn
        · subst hz
          go_upto_region 4 with fail
          clear b0 b1 b2 b3 e0 e1 e2 e3
          have HAw3 := HA3
          have HB0w3 := HB0
          have HB1w3 := HB1
          go_loopw [5] (fun t wx => ∃ i : Nat, i ≤ xkn ∧ t = .int .i64 (i : Int) ∧ Hid (Adds w3 wx ∧ ∀ u, u < i → xks.getD u [] = yks.getD u [])) (fun t _ => xkn - (intOf t).toNat)
          case atStart => exact ⟨0, Nat.zero_le _, rfl, (by first | exact Touch.refl _ _ | (rw [hwk]; exact Touch.refl _ _) | (rw [hwv]; exact Touch.refl _ _)), fun u h => by omega⟩
          case round =>
            obtain ⟨i, hi, rfl, HI⟩ := hrel
            obtain ⟨b0, b1, b2, b3⟩ := box_cells (box_adds HB0w3.out HI.out.1)
            obtain ⟨e0, e1, e2, e3⟩ := box_cells (box_adds HB1w3.out HI.out.1)
            by_cases hlt : i < xkn
            · have hlz : (i : Int) < (xkn : Int) := by omega
              obtain ⟨c1, o1, ea1, hc1⟩ := HX.out.key (i := i) (by show i < xks.length; rw [← HL.out.1]; exact hlt)
              obtain ⟨c2, o2, ea2, hc2⟩ := HY.out.key (i := i) (by show i < yks.length; rw [← HL.out.2.1]; exact hlt)
              obtain ⟨k1, hk1⟩ : ∃ k, k = xks.getD i [] := ⟨_, rfl⟩
              obtain ⟨k2, hk2⟩ : ∃ k, k = yks.getD i [] := ⟨_, rfl⟩
              have d1 : wr.cell? ⟨c1, o1 + i, none⟩ = some (.string ⟨k1.toArray⟩) := by rw [hk1]; exact below_adds (HAw3.out.trans HI.out.1) hc1
              have d2 : wr.cell? ⟨c2, o2 + i, none⟩ = some (.string ⟨k2.toArray⟩) := by rw [hk2]; exact below_adds (HAw3.out.trans HI.out.1) hc2
              have HKs := hid (And.intro hk1 hk2)
              have ea1' : xka = some ⟨c1, o1, none⟩ := ea1
              have ea2' : yka = some ⟨c2, o2, none⟩ := ea2
              rw [ea1'] at b1
              rw [ea2'] at e1
              clear hc1 hc2 ea1 ea2 ea1' ea2' hk1 hk2
              by_cases he : k1 = k2
              · have he2 : (k1 == k2) = true := by simpa using he
                have HEq := hid he
                clear he
                go_upto_region 6 with fail
                go_quiet (fail)
                go_wp2
                go_roundw
                case rel =>
                  refine ⟨i + 1, by omega, by go_num, HI.out.1.trans (adds_dn _ _), fun u hu => ?_⟩
                  rcases Nat.lt_or_eq_of_le (Nat.le_of_lt_succ hu) with q | q
                  · exact HI.out.2 u q
                  · rw [q, ← HKs.out.1, ← HKs.out.2]; exact HEq.out
                case measure => simp [intOf]; omega
              · have he2 : (k1 == k2) = false := by simpa using he
                have HNe := hid he
                clear he
                go_upto_region 6 with fail
                go_quiet (fail)
                go_wp2
                go_ret
                exact ⟨congrArg (fun z => Ending.returned (Value.bool z)) (show false = r by rw [HR.out]; exact (N.same_k (fun e => HNe.out (by rw [HKs.out.1, HKs.out.2]; exact congrArg (fun l : List (List UInt8) => l.getD i []) (show xks = yks from e)))).symm), HAw3.out.trans (HI.out.1.trans (adds_dn _ _))⟩
            · obtain rfl : i = xkn := by omega
              have hlz : ¬ (i : Int) < (i : Int) := by omega
              go_upto_region 9 with fail
              obtain ⟨wk, hwk⟩ : ∃ v, v = wr := ⟨_, rfl⟩
              have HAwk := hid (HAw3.out.trans HI.out.1)
              have HB0wk := hid (box_adds HB0w3.out HI.out.1)
              have HB1wk := hid (box_adds HB1w3.out HI.out.1)
              have HEk := hid HI.out.2
              rw [← hwk] at HAwk HB0wk HB1wk
              clear b0 b1 b2 b3 e0 e1 e2 e3
              go_loopw [6] (fun t wx => ∃ i : Nat, i ≤ xvn ∧ t = .int .i64 (i : Int) ∧ Hid (Adds wk wx ∧ ∀ u, u < i → xg.bs.getD u [] = yg.bs.getD u [])) (fun t _ => xvn - (intOf t).toNat)
              case atStart => exact ⟨0, Nat.zero_le _, rfl, (by first | exact Touch.refl _ _ | (rw [hwk]; exact Touch.refl _ _) | (rw [hwv]; exact Touch.refl _ _)), fun u h => by omega⟩
              case round =>
                obtain ⟨i, hi, rfl, HI⟩ := hrel
                obtain ⟨b0, b1, b2, b3⟩ := box_cells (box_adds HB0wk.out HI.out.1)
                obtain ⟨e0, e1, e2, e3⟩ := box_cells (box_adds HB1wk.out HI.out.1)
                by_cases hlt : i < xvn
                · have hlz : (i : Int) < (xvn : Int) := by omega
                  have hi1 : i < xg.l.length := by rw [← HL.out.2.2.1]; exact hlt
                  have hi2 : i < yg.l.length := by rw [← HL.out.2.2.2.1]; exact hlt
                  obtain ⟨c1, o1, ea1, hc1⟩ := HX.out.vals.cell hi1
                  obtain ⟨c2, o2, ea2, hc2⟩ := HY.out.vals.cell hi2
                  obtain ⟨p1, hp1⟩ : ∃ p, p = xg.l[i] := ⟨_, rfl⟩
                  obtain ⟨p2, hp2⟩ : ∃ p, p = yg.l[i] := ⟨_, rfl⟩
                  have hq1 : PQ w Q p1 := by rw [hp1]; exact HX.out.vals.all _ (List.getElem_mem hi1)
                  have hq2 : PQ w Q' p2 := by rw [hp2]; exact HY.out.vals.all _ (List.getElem_mem hi2)
                  obtain ⟨m1, hm1⟩ : ∃ m, m = p1.bs.length := ⟨_, rfl⟩
                  obtain ⟨m2, hm2⟩ : ∃ m, m = p2.bs.length := ⟨_, rfl⟩
                  have v1 : ∀ n, (convert 30 9 (.slice p1.a m1 p1.cap)).run Try.prog (wr.drewN n) = .ok (.string ⟨p1.bs.toArray⟩) (wr.drewN n) := fun n => conv_dn wr n ((hq1.adds (HAwk.out.trans HI.out.1)).at_.at) hm1
                  have v2 : ∀ n, (convert 30 9 (.slice p2.a m2 p2.cap)).run Try.prog (wr.drewN n) = .ok (.string ⟨p2.bs.toArray⟩) (wr.drewN n) := fun n => conv_dn wr n ((hq2.adds (HAwk.out.trans HI.out.1)).at_.at) hm2
                  have d1 : wr.cell? ⟨c1, o1 + i, none⟩ = some (.slice p1.a m1 p1.cap) := by rw [hm1, hp1]; exact below_adds (HAwk.out.trans HI.out.1) hc1
                  have d2 : wr.cell? ⟨c2, o2 + i, none⟩ = some (.slice p2.a m2 p2.cap) := by rw [hm2, hp2]; exact below_adds (HAwk.out.trans HI.out.1) hc2
                  obtain ⟨k1, hk1⟩ : ∃ k, k = p1.bs := ⟨_, rfl⟩
                  obtain ⟨k2, hk2⟩ : ∃ k, k = p2.bs := ⟨_, rfl⟩
                  have HKs := hid (show k1 = xg.bs.getD i [] ∧ k2 = yg.bs.getD i [] from ⟨by rw [hk1, hp1, Pl.bs, List.getD_eq_getElem?_getD, List.getElem?_map, List.getElem?_eq_getElem hi1]; rfl, by rw [hk2, hp2, Pl.bs, List.getD_eq_getElem?_getD, List.getElem?_map, List.getElem?_eq_getElem hi2]; rfl⟩)
                  rw [← hk1] at v1
                  rw [← hk2] at v2
                  obtain ⟨pa1, hpa1⟩ : ∃ a, a = p1.a := ⟨_, rfl⟩
                  obtain ⟨pa2, hpa2⟩ : ∃ a, a = p2.a := ⟨_, rfl⟩
                  obtain ⟨pc1, hpc1⟩ : ∃ a, a = p1.cap := ⟨_, rfl⟩
                  obtain ⟨pc2, hpc2⟩ : ∃ a, a = p2.cap := ⟨_, rfl⟩
                  rw [← hpa1, ← hpc1] at v1 d1
                  rw [← hpa2, ← hpc2] at v2 d2
                  have ea1' : xva = some ⟨c1, o1, none⟩ := by rw [HL.out.2.2.2.2.2.2.1]; exact ea1
                  have ea2' : yva = some ⟨c2, o2, none⟩ := by rw [HL.out.2.2.2.2.2.2.2]; exact ea2
                  rw [ea1'] at b2
                  rw [ea2'] at e2
                  clear hc1 hc2 ea1 ea2 ea1' ea2' hk1 hk2 hp1 hp2 hq1 hq2 hm1 hm2 hpa1 hpa2 hpc1 hpc2 hi1 hi2
                  by_cases he : k1 = k2
                  · have he2 : (k1 == k2) = true := by simpa using he
                    have HEq := hid he
                    clear he
                    go_upto_region 11 with fail
                    go_quiet (fail)
                    go_wp2
                    go_roundw
                    case rel =>
                      refine ⟨i + 1, by omega, by go_num, HI.out.1.trans (adds_dn _ _), fun u hu => ?_⟩
                      rcases Nat.lt_or_eq_of_le (Nat.le_of_lt_succ hu) with q | q
                      · exact HI.out.2 u q
                      · rw [q, ← HKs.out.1, ← HKs.out.2]; exact HEq.out
                    case measure => simp [intOf]; omega
                  · have he2 : (k1 == k2) = false := by simpa using he
                    have HNe := hid he
                    clear he
                    go_upto_region 11 with fail
                    go_quiet (fail)
                    go_wp2
                    go_ret
                    exact ⟨congrArg (fun z => Ending.returned (Value.bool z)) (show false = r by rw [HR.out]; exact (N.same_v (fun e => HNe.out (by rw [HKs.out.1, HKs.out.2]; exact congrArg (fun l : List (List UInt8) => l.getD i []) (show xg.bs = yg.bs from e)))).symm), HAwk.out.trans (HI.out.1.trans (adds_dn _ _))⟩
                · obtain rfl : i = xvn := by omega
                  have hlz : ¬ (i : Int) < (i : Int) := by omega
                  go_upto_region 14 with fail
                  obtain ⟨wv, hwv⟩ : ∃ v, v = wr := ⟨_, rfl⟩
                  have HAwv := hid (HAwk.out.trans HI.out.1)
                  have HB0wv := hid (box_adds HB0wk.out HI.out.1)
                  have HB1wv := hid (box_adds HB1wk.out HI.out.1)
                  have HEv := hid HI.out.2
                  rw [← hwv] at HAwv HB0wv HB1wv
                  clear b0 b1 b2 b3 e0 e1 e2 e3
                  go_loopw [7] (fun t wx => ∃ i : Nat, i ≤ xzn ∧ t = .int .i64 (i : Int) ∧ Hid (Adds wv wx ∧ ∀ u, u < i → xzs.getD u 0 = yzs.getD u 0)) (fun t _ => xzn - (intOf t).toNat)
                  case atStart => exact ⟨0, Nat.zero_le _, rfl, (by first | exact Touch.refl _ _ | (rw [hwk]; exact Touch.refl _ _) | (rw [hwv]; exact Touch.refl _ _)), fun u h => by omega⟩
                  case round =>
                    obtain ⟨i, hi, rfl, HI⟩ := hrel
                    obtain ⟨b0, b1, b2, b3⟩ := box_cells (box_adds HB0wv.out HI.out.1)
                    obtain ⟨e0, e1, e2, e3⟩ := box_cells (box_adds HB1wv.out HI.out.1)
                    by_cases hlt : i < xzn
                    · have hlz : (i : Int) < (xzn : Int) := by omega
                      obtain ⟨c1, o1, ea1, hc1⟩ := HX.out.kid (i := i) (by show i < xzs.length; rw [← HL.out.2.2.2.2.1]; exact hlt)
                      obtain ⟨c2, o2, ea2, hc2⟩ := HY.out.kid (i := i) (by show i < yzs.length; rw [← HL.out.2.2.2.2.2.1]; exact hlt)
                      obtain ⟨k1, hk1⟩ : ∃ k, k = xzs.getD i 0 := ⟨_, rfl⟩
                      obtain ⟨k2, hk2⟩ : ∃ k, k = yzs.getD i 0 := ⟨_, rfl⟩
                      have d1 : wr.cell? ⟨c1, o1 + i, none⟩ = some (.int .i64 k1) := by rw [hk1]; exact below_adds (HAwv.out.trans HI.out.1) hc1
                      have d2 : wr.cell? ⟨c2, o2 + i, none⟩ = some (.int .i64 k2) := by rw [hk2]; exact below_adds (HAwv.out.trans HI.out.1) hc2
                      have HKs := hid (And.intro hk1 hk2)
                      have ea1' : xia = some ⟨c1, o1, none⟩ := ea1
                      have ea2' : yia = some ⟨c2, o2, none⟩ := ea2
                      rw [ea1'] at b3
                      rw [ea2'] at e3
                      clear hc1 hc2 ea1 ea2 ea1' ea2' hk1 hk2
                      by_cases he : k1 = k2
                      · have he2 : (k1 != k2) = false := by simpa using he
                        have HEq := hid he
                        clear he
                        go_upto_region 16 with fail
                        go_quiet (fail)
                        go_wp2
                        go_roundw
                        case rel =>
                          refine ⟨i + 1, by omega, by go_num, HI.out.1.trans (adds_dn _ _), fun u hu => ?_⟩
                          rcases Nat.lt_or_eq_of_le (Nat.le_of_lt_succ hu) with q | q
                          · exact HI.out.2 u q
                          · rw [q, ← HKs.out.1, ← HKs.out.2]; exact HEq.out
                        case measure => simp [intOf]; omega
                      · have he2 : (k1 != k2) = true := by simpa using he
                        have HNe := hid he
                        clear he
                        go_upto_region 16 with fail
                        go_quiet (fail)
                        go_wp2
                        go_ret
                        exact ⟨congrArg (fun z => Ending.returned (Value.bool z)) (show false = r by rw [HR.out]; exact (N.same_i (fun e => HNe.out (by rw [HKs.out.1, HKs.out.2]; exact congrArg (fun l : List Int => l.getD i 0) (show xzs = yzs from e)))).symm), HAwv.out.trans (HI.out.1.trans (adds_dn _ _))⟩
                    · obtain rfl : i = xzn := by omega
                      have hlz : ¬ (i : Int) < (i : Int) := by omega
                      go_wp2_with fail
                      go_ret
                      have hk : xks = yks := ext_all (by rw [← HL.out.1, ← HL.out.2.1]) (fun t a b => by have q := HEk.out t (by rw [HL.out.1]; exact a); simpa [List.getD_eq_getElem?_getD, a, b] using q)
                      have hv : xg.bs = yg.bs := ext_all (by rw [HBx.out.1, HBx.out.2, ← HL.out.2.2.1, ← HL.out.2.2.2.1]) (fun t a b => by have q := HEv.out t (by rw [HL.out.2.2.1, ← HBx.out.1]; exact a); simpa [List.getD_eq_getElem?_getD, a, b] using q)
                      have hz : xzs = yzs := ext_all (by rw [← HL.out.2.2.2.2.1, ← HL.out.2.2.2.2.2.1]) (fun t a b => by have q := HI.out.2 t (by rw [HL.out.2.2.2.2.1]; exact a); simpa [List.getD_eq_getElem?_getD, a, b] using q)
                      exact ⟨congrArg (fun z => Ending.returned (Value.bool z)) (show true = r by rw [HR.out]; exact (N.same_eq (by show (⟨xl, xks, xg.bs, xzs⟩ : N.Nd) = ⟨xl, yks, yg.bs, yzs⟩; rw [hk, hv, hz])).symm), HAwv.out.trans HI.out.1⟩
        · have hz2 : ((xzn : Int) != (yzn : Int)) = true := by simp; omega
          have HN := hid hz
          clear hz
          go_wp2_with fail
          go_ret
          exact ⟨congrArg (fun z => Ending.returned (Value.bool z)) (show false = r by rw [HR.out]; exact (N.same_i (fun e => HN.out (by rw [HL.out.2.2.2.2.1, HL.out.2.2.2.2.2.1]; exact congrArg List.length (show xzs = yzs from e)))).symm), HA3.out⟩
      · have hv2 : ((xvn : Int) != (yvn : Int)) = true := by simp; omega
        have HN := hid hv
        clear hv
        go_wp2_with fail
        go_ret
        exact ⟨congrArg (fun z => Ending.returned (Value.bool z)) (show false = r by rw [HR.out]; exact (N.same_v (fun e => HN.out (by rw [HL.out.2.2.1, HL.out.2.2.2.1, ← HBx.out.1, ← HBx.out.2]; exact congrArg List.length (show xg.bs = yg.bs from e)))).symm), HA3.out⟩
    · have hk2 : ((xkn : Int) != (ykn : Int)) = true := by simp; omega
      have HN := hid hk
      clear hk
      go_wp2_with fail
      go_ret
      exact ⟨congrArg (fun z => Ending.returned (Value.bool z)) (show false = r by rw [HR.out]; exact (N.same_k (fun e => HN.out (by rw [HL.out.1, HL.out.2.1]; exact congrArg List.length (show xks = yks from e)))).symm), HA3.out⟩
  · have HN := hid hl
    cases xl <;> cases yl
    · exact absurd rfl HN.out
    · go_wp2_with fail
      go_ret
      exact ⟨congrArg (fun z => Ending.returned (Value.bool z)) (show false = r by rw [HR.out]; exact (N.same_l (fun e => HN.out e)).symm), HA3.out⟩
    · go_wp2_with fail
      go_ret
      exact ⟨congrArg (fun z => Ending.returned (Value.bool z)) (show false = r by rw [HR.out]; exact (N.same_l (fun e => HN.out e)).symm), HA3.out⟩
    · exact absurd rfl HN.out
end Go.Proofs.Ytplppnngmlljnaa
