/- Texts put together: NRParse, NSpoil, NParses. -/
import Derived.Test.YtplppnngmlljnaaQ16
import Derived.Test.YtplppnngmlljnaaQ14
import Derived.Test.YtplppnngmlljnaaQ15
import Derived.Laws.BitsLemmas
import Derived.Test.YtplppnngmlljnaaQ13
/- The reference: a page's node. -/
namespace Go.Proofs.Ytplppnngmlljnaa
open Go.RowKit

abbrev RZ : Obj := .cells #[.bool false, .slice none 0 0, .slice none 0 0, .slice none 0 0] 26
abbrev PgZ : Obj := .cells #[.int .i64 0, .int .u8 0, .slice none 0 0] 84
theorem infoPg : Hid ((Try.prog.info? 84).map (·.size) = some 3) := show (Try.prog.info? 84).map (·.size) = some 3 by kernel_rfl
theorem infoPg3 (a b c : Value) : (Try.prog.info? 84).map (·.size) = some (#[a, b, c] : Array Value).size := infoPg.out
theorem one3p (a b : Int) (c : Option Addr) (c1 c2 : Nat) : (#[Value.int .i64 a, .int .u8 b, .slice c c1 c2] : Array Value).all (·.oneCell') = true := all_oneCell_toArray (cs := [Value.int .i64 a, .int .u8 b, .slice c c1 c2]) (by intro v hv; simp only [List.mem_cons, List.not_mem_nil, or_false] at hv; rcases hv with rfl | rfl | rfl <;> rfl)
theorem pbox {w : World} {N0 : Nat} {a b c : Value} {t : TypeId} (hb : w.heap[N0]? = some (.cells #[a, b, c] t)) : w.cell? ⟨N0, 0, .none⟩ = some a ∧ w.cell? ⟨N0, 1, .none⟩ = some b ∧ w.cell? ⟨N0, 2, .none⟩ = some c :=
  ⟨by rw [cellOf hb]; rfl, by rw [cellOf hb]; rfl, by rw [cellOf hb]; rfl⟩
theorem load_r (w : World) (g : Nat) (cs : Array Value) (hg : w.heap[g]? = some (.cells cs 26 (0, 0))) (hs : cs.size = 4) : (loadVar 26 ⟨g, 0, .none⟩).run Try.prog w = .ok (.agg cs) w :=
  run_loadVar_row w g 26 26 cs (0, 0) _ hg Try.underlying26 rfl (by rw [infoRN.out, hs])
theorem results_r2 {fn : Func} {p u : Tmp} (h : fn.results = #[.cell p 26, .tmp u]) (tmps : Array Value) (w : World) (g : Nat) (cs : Array Value) (hp : tmps.getD p undef = .pointer (some ⟨g, 0, .none⟩)) (hg : w.heap[g]? = some (.cells cs 26 (0, 0))) (hs : cs.size = 4) :
    (results fn tmps).run Try.prog w = .ok (.tuple #[.agg cs, tmps.getD u undef]) w := by
  have q : (asAddr (.pointer (some ⟨g, 0, .none⟩))).run Try.prog w = .ok ⟨g, 0, .none⟩ w := by simp [asAddr]
  rw [results_cell_tmp h, hp, q]
  simp only [Result.andThen, load_r w g cs hg hs]
theorem NOwn.touchR {w w' : World} {B N : Nat} {z : NM} {cs : Array Value} (h : NOwn w B z) (hT : Touch (fun j => j = N) w w') (hb : w.heap[N]? = some (.cells cs 26 (0, 0))) : NOwn w' B z :=
  ⟨row_touch h.keys hT (fun j hj c => row_ne h.keys hb (by decide) hj c), row_touch h.vals hT (fun j hj c => row_ne h.vals hb (by decide) hj c), fun p hp => (h.each p hp).touch hT (fun k hk cs' fr e => by subst hk; rw [hb] at e; injection e with e1; injection e1 with _ e2 _; exact absurd e2 (by decide)), row_touch h.kids hT (fun j hj c => row_ne h.kids hb (by decide) hj c)⟩
theorem rptnode_end {w wE : World} {N1 : Nat} {z : NM} {R : N.Nd × Nat} {cs : Array Value} {er : Int} (hz : z.nd = R.1) (he : er = (R.2 : Int)) (ho : NOwn wE w.heap.size z) (hA : Adds w wE) (hN : wE.heap[N1]? = some (.cells cs 26 (0, 0))) (hge : w.heap.size ≤ N1) (cs' : Array Value) : PTnode w R (.returned (.tuple #[z.val, .int .i64 er])) (wE.setRow N1 cs') :=
  ⟨z, by rw [he], hz, ho.touchR (touch_row wE N1 cs') hN, hA.then (touch_row wE N1 cs') (fun j hj e => by omega)⟩
/-- The reference's page, whatever the bytes are. -/
theorem rparse_any (a : Option Addr) (bs : List UInt8) (n cap : Nat) (w : World) (hn : bs.length = n) (hc : n ≤ cap) (hA : At w a bs) : Calls Try.prog 51 #[.slice a n cap] w (PParse w bs) := by
  by_cases h : n = 256
  · subst h
    obtain ⟨c, hc0⟩ : ∃ c, bs[0]? = some c := ⟨_, List.getElem?_eq_getElem (by omega)⟩
    obtain ⟨b, o, rfl, _⟩ := hA 0 c hc0
    by_cases h2 : 127 < (bs.getD 0 0).toNat ∨ M.pKd bs = 0
    · exact rparse_head b o bs cap w hn hA h2
    · exact rparse_256 b o bs cap w hn hc hA (fun c => h2 (.inl c)) (fun c => h2 (.inr c))
  · exact rparse_long a bs n cap w hn h
/-- The same, of a page of a kind, the parts by name. -/
def PPd (w : World) (cl : List (List UInt8)) (cn : Nat) (kd : Int) (e : Ending) (w' : World) : Prop := ∃ (no : Int) (va : Option Addr) (vc : Nat) (hs : List Part), e = .returned (.tuple #[.agg #[.int .i64 no, .int .u8 kd, .slice va cn vc], .bool true]) ∧ Hid (hs.map (·.bs) = cl ∧ GQ w' (fun _ => True) ⟨va, vc, hs⟩ ∧ Adds w w' ∧ ∀ p ∈ hs, Rm w'.heap.size p)
theorem PParse.nd {f : Nat} {args : Array Value} {w : World} {bs : List UInt8} {cl : List (List UInt8)} {cn : Nat} {kd : UInt8} {kz : Int} (h : Calls Try.prog f args w (PParse w bs)) (hcl : cl = M.cellsP bs) (hcn : cn = cl.length) (hk : M.kindP bs = kd) (hz : kd ≠ 0 ∧ kz = (kd.toNat : Int)) : Calls Try.prog f args w (PPd w cl cn kz) := by
  refine h.mono ?_
  rintro e w' ⟨va, vc, hs, rfl, H⟩
  have hs1 : (M.readP bs).isSome = true := by
    cases hR : M.readP bs with
    | none => rw [(M.none_all hR).2.1] at hk; exact absurd hk.symm hz.1
    | some p => rfl
  have e2 : hs.length = cn := by rw [hcn, hcl, ← H.out.1, List.length_map]
  exact ⟨_, va, vc, hs, by rw [hs1, hk, e2, hz.2], by rw [hcl]; exact H.out.1, H.out.2.1.mono (fun _ _ _ => trivial), H.out.2.2.1, H.out.2.2.2.2⟩
set_option maxRecDepth 100000 in
set_option maxHeartbeats 16000000 in
theorem rparse14_leaf (a : Option Addr) (bs : List UInt8) (n cap : Nat) (w : World) (hn : bs.length = n) (hc : n ≤ cap) (hA : At w a bs) (hk : M.kindP bs = 5) : Calls Try.prog 23 #[.slice a n cap] w (PTnode w (N.parse bs)) := by
  obtain ⟨cl, hcl⟩ : ∃ cl, cl = M.cellsP bs := ⟨_, rfl⟩
  obtain ⟨hc244, hc122⟩ : (∀ c ∈ M.cellsP bs, c.length ≤ 244) ∧ (M.cellsP bs).length ≤ 122 := by
    cases hR : M.readP bs with
    | none => rw [(M.none_all hR).2.2.1]; exact ⟨fun c h => (by cases h), by decide⟩
    | some p => rw [(M.some_all hR).2.2.1]; exact ⟨fun c h => cell_len (M.read_ok hR).1 h, (M.read_ok hR).1.count.1⟩
  rw [← hcl] at hc244 hc122
  have HNo := hid (show cl.any (N.pbad true) = true → N.parse bs = (N.nil, 22) from fun h => by
    unfold N.parse
    rw [hk, ← hcl, if_neg (by decide), show ((5 : UInt8) == 5) = true from rfl, if_pos h])
  have HYes := hid (show cl.any (N.pbad true) = false → N.parse bs = N.told (N.pnode true cl) from fun h => by
    unfold N.parse
    rw [hk, ← hcl, if_neg (by decide), show ((5 : UInt8) == 5) = true from rfl, if_neg (by rw [h]; decide)])
  obtain ⟨N1, hN1⟩ : ∃ N1, N1 = w.heap.size := ⟨_, rfl⟩
  obtain ⟨w1, hw1⟩ : ∃ w1, w1 = w.alloc RZ := ⟨_, rfl⟩
  have HA1 := hid (show Adds w w1 by rw [hw1]; exact (Touch.refl _ w).alloc _)
  have HB1 := hid (show w1.heap[N1]? = some RZ by rw [hw1, hN1]; exact heap_alloc_new w _)
  have HL := hid (show w.heap.size ≤ N1 by omega)
  obtain ⟨cn, hcn⟩ : ∃ cn, cn = cl.length := ⟨_, rfl⟩
  have HP := hid (show Calls Try.prog 51 #[.slice a n cap] w1 (PPd w1 cl cn 5) from PParse.nd (rparse_any a bs n cap w1 hn hc (hA.adds HA1.out)) hcl hcn hk (by decide))
  have hcn9 : cn ≤ 122 := by rw [hcn]; exact hc122
  have HCn := hid hcn
  have H244 := hid hc244
  clear hn hc hA hk hcl hc244 hc122 hcn
  go_enter Try.func23, Try.ntmps23
  go_upto_region 1 with fail
  rw [← hw1, ← hN1]
  clear hw1 hN1
  go_upto_region 2 with (first
    | (go_at_call 51; refine HP.out.mono ?_; rintro e w2 ⟨no, ca, cc, hs, rfl, Hc2⟩)
    | (refine wpList_store_row rfl 84 _ _ rfl w2.heap.size #[.int .i64 no, .int .u8 5, .slice ca cn cc] rfl rfl 84 _ (heap_alloc_new w2 PgZ) (infoPg3 _ _ _) rfl (one3p _ _ _ _ _) ?_))
  clear HP
  obtain ⟨N4, hN4⟩ : ∃ N4, N4 = w2.heap.size := ⟨_, rfl⟩
  obtain ⟨w3, hw3⟩ : ∃ w3, w3 = (w2.alloc PgZ).setRow w2.heap.size #[.int .i64 no, .int .u8 5, .slice ca cn cc] := ⟨_, rfl⟩
  have HB4 := hid (show w3.heap[N4]? = some (.cells #[.int .i64 no, .int .u8 5, .slice ca cn cc] 84 (0, 0)) by rw [hw3, hN4]; exact setRow_heap (w2.alloc PgZ) w2.heap.size _ _ 84 _ (heap_alloc_new w2 PgZ))
  have HA23 := hid (show Adds w2 w3 by rw [hw3]; exact ((Touch.refl (fun _ => False) w2).alloc PgZ).then (touch_row (w2.alloc PgZ) w2.heap.size _) (fun j hj e => by omega))
  have HN4 := hid (show w.heap.size ≤ N4 ∧ ¬ N1 = N4 by
    have h1 := (Array.getElem?_eq_some_iff.1 (box_adds HB1.out Hc2.out.2.2.1)).1
    have h2 := (HA1.out.trans Hc2.out.2.2.1).size
    omega)
  rw [← hw3, ← hN4]
  clear hw3 hN4
  obtain ⟨_, p1, _⟩ := pbox HB4.out
  go_upto_region 4 with fail
  go_upto_region 5 with (refine wpList_store_row rfl 26 _ _ rfl w3.heap.size #[.bool true, .slice .none 0 0, .slice .none 0 0, .slice .none 0 0] rfl rfl 26 _ (heap_alloc_new w3 RZ) (infoR4 _ _ _ _) rfl (one4 _ _ _ _ _ _ _ _ _ _) ?_)
  clear p1
  obtain ⟨N5, hN5⟩ : ∃ N5, N5 = w3.heap.size := ⟨_, rfl⟩
  obtain ⟨wc, hwc⟩ : ∃ wc, wc = (w3.alloc RZ).setRow w3.heap.size #[.bool true, .slice .none 0 0, .slice .none 0 0, .slice .none 0 0] := ⟨_, rfl⟩
  have HB5 := hid (show wc.heap[N5]? = some (.cells #[.bool true, .slice .none 0 0, .slice .none 0 0, .slice .none 0 0] 26 (0, 0)) by rw [hwc, hN5]; exact setRow_heap (w3.alloc RZ) w3.heap.size _ _ 26 _ (heap_alloc_new w3 RZ))
  have HA3c := hid (show Adds w3 wc by rw [hwc]; exact ((Touch.refl (fun _ => False) w3).alloc RZ).then (touch_row (w3.alloc RZ) w3.heap.size _) (fun j hj e => by omega))
  have HAc := hid (HA1.out.trans (Hc2.out.2.2.1.trans (HA23.out.trans HA3c.out)))
  have HB1c := hid (box_adds HB1.out (Hc2.out.2.2.1.trans (HA23.out.trans HA3c.out)))
  have HB4c := hid (box_adds HB4.out HA3c.out)
  have HN5 := hid (show w.heap.size ≤ N5 by rw [hN5]; exact (HA1.out.trans (Hc2.out.2.2.1.trans HA23.out)).size)
  have HN15 := hid (show ¬ N1 = N5 by have := (Array.getElem?_eq_some_iff.1 (box_adds HB1.out (Hc2.out.2.2.1.trans HA23.out))).1; omega)
  have HN45 := hid (show ¬ N4 = N5 by have := (Array.getElem?_eq_some_iff.1 HB4.out).1; omega)
  have HN5w := hid (show w2.heap.size ≤ N5 by rw [hN5]; exact HA23.out.size)
  rw [← hwc, ← hN5]
  clear hwc hN5
  have Hc := hid (And.intro Hc2.out.1 (And.intro ((Hc2.out.2.1.mono (Q' := fun k => k < w2.heap.size) (fun k hk _ => hk)).adds (HA23.out.trans HA3c.out)) (And.intro HAc.out (fun x hx => (Hc2.out.2.2.2 x hx).mono (HA23.out.trans HA3c.out).size))))
  have HPz0 := hid (show Rz wc wc N5 true ⟨true, none, 0, [], ⟨none, 0, []⟩, none, 0, []⟩ from
    ⟨Touch.refl _ _, ⟨World.ownsRow_nil _ _ _ _, World.ownsRow_nil _ _ _ _, fun p hp => (by cases hp), World.ownsRow_nil _ _ _ _⟩, fun g hg => (by cases hg), fun g hg => (by cases hg), fun g hg => (by cases hg), HB5.out, rfl⟩)
  have HLh := hid (show hs.length = cn by rw [HCn.out, ← Hc.out.1, List.length_map])
  go_upto_region 6 with fail
  go_loopw [7] (fun t wx => ∃ (k : Nat) (ka : Option Addr) (kc : Nat) (ks : List (List UInt8)) (va : Option Addr) (vc : Nat) (hs2 : List Part) (ia : Option Addr) (ic : Nat) (zs : List Int), k ≤ cn ∧ t = .int .i64 (k : Int) ∧ Hid (Rz wc wx N5 true ⟨true, ka, kc, ks, ⟨va, vc, hs2⟩, ia, ic, zs⟩ ∧ NM.nd ⟨true, ka, kc, ks, ⟨va, vc, hs2⟩, ia, ic, zs⟩ = N.pnode true (cl.take k) ∧ ∀ c ∈ cl.take k, N.pbad true c = false)) (fun t _ => cn - (intOf t).toNat)
  case atStart => exact ⟨0, none, 0, [], none, 0, [], none, 0, [], Nat.zero_le _, rfl, HPz0.out, rfl, fun c hc => by cases hc⟩
  case round =>
    obtain ⟨k, ka, kc, ks, va, vc, hs2, ia, ic, zs, hk, rfl, HI⟩ := hrel
    by_cases hlt : k < cn
    · have hlz : (k : Int) < (cn : Int) := by omega
      have hkh : k < hs.length := by rw [HLh.out]; exact hlt
      have hkc : k < cl.length := by rw [← HCn.out]; exact hlt
      have HGq := (Hc.out.2.1.touch HI.out.1.touch (fun j hj c => by have := HN5w.out; omega))
      obtain ⟨b, o, ea, hcell⟩ := HGq.cell hkh
      obtain ⟨y, hy⟩ : ∃ y, y = hs[k] := ⟨_, rfl⟩
      obtain ⟨c, hcE⟩ : ∃ c, c = cl[k] := ⟨_, rfl⟩
      have hyc : y.bs = c := by
        have q : (hs.map (·.bs))[k]? = cl[k]? := by rw [Hc.out.1]
        rw [List.getElem?_map, List.getElem?_eq_getElem hkh, List.getElem?_eq_getElem hkc] at q
        rw [hy, hcE]; exact Option.some.inj q
      have HMem := hid (show c ∈ cl by rw [hcE]; exact List.getElem_mem hkc)
      have HCk := hid (show cl.take (k + 1) = cl.take k ++ [c] by rw [List.take_add_one, List.getElem?_eq_getElem hkc, hcE]; rfl)
      have hyq := HGq.all hs[k] (List.getElem_mem hkh)
      rw [← hy] at hcell hyq
      obtain ⟨m, hm⟩ : ∃ m, m = y.bs.length := ⟨_, rfl⟩
      have hm9 : m ≤ 244 := by rw [hm, hyc]; exact H244.out c HMem.out
      have hcell' : wr.cell? ⟨b, o + k, none⟩ = some (.slice y.a m y.cap) := by rw [hm]; exact hcell
      have HRm := hid (show Rm wr.heap.size ⟨y.a, c, y.cap⟩ by
        have q := (Hc.out.2.2.2 hs[k] (List.getElem_mem hkh)).mono HI.out.1.touch.size
        rw [← hy] at q; rw [← hyc]; exact q)
      have HYq := hid (show PQ wr (fun j => j < w2.heap.size) ⟨y.a, c, y.cap⟩ by rw [← hyc]; exact hyq)
      have HMc := hid (show m = c.length by rw [hm, hyc])
      have HBp := hid (show wr.heap[N4]? = some (.cells #[.int .i64 no, .int .u8 5, .slice ca cn cc] 84 (0, 0)) by rw [(HI.out.1.touch).block N4 (Array.getElem?_eq_some_iff.1 HB4c.out).1 HN45.out]; exact HB4c.out)
      have HLn := hid (show ks.length ≤ 1000000 ∧ hs2.length ≤ 1000000 ∧ zs.length ≤ 1000000 by
        have q := HI.out.2.1
        have hkt : (cl.take k).length ≤ 122 := by rw [List.length_take]; omega
        have e1 : ks = (cl.take k).map N.pkey := congrArg N.Nd.keys q
        have e2 : hs2.map (·.bs) = (N.pnode true (cl.take k)).vals := congrArg N.Nd.vals q
        have e3 : zs = (N.pnode true (cl.take k)).kids := congrArg N.Nd.kids q
        have b2 : (N.pnode true (cl.take k)).vals.length ≤ 122 := by unfold N.pnode; simp; try omega
        have b3 : (N.pnode true (cl.take k)).kids.length ≤ 122 := by unfold N.pnode; simp; try omega
        refine ⟨by rw [e1, List.length_map]; omega, by rw [← List.length_map (f := fun x : Part => x.bs), e2]; omega, by rw [e3]; omega⟩)
      have HLn9 := hid HLn.out.1
      have HLn10 := hid HLn.out.2.1
      have ea' : ca = some ⟨b, o, none⟩ := ea
      subst ea'
      clear hcell hyq hy hyc hcE hkh hkc HGq hm ea
      obtain ⟨_, _, p2⟩ := pbox HBp.out
      go_upto_region 9 with fail
      clear hcell' p2
      obtain ⟨p, hp⟩ : ∃ p, p = wr.heap.size := ⟨_, rfl⟩
      obtain ⟨w8, hw8⟩ : ∃ w8, w8 = wr.alloc (.cells #[.slice y.a m y.cap, .int .i64 0] 89) := ⟨_, rfl⟩
      have HR9 := hid (show IsS w8 p ⟨0, c⟩ by rw [hw8, hp]; exact IsS.fresh HYq.out HMc.out HRm.out (by omega))
      have HP9 := hid (show Rz wc w8 N5 true ⟨true, ka, kc, ks, ⟨va, vc, hs2⟩, ia, ic, zs⟩ by rw [hw8]; exact HI.out.1.adds ((Touch.refl _ wr).alloc _))
      have HPl := hid (show wc.heap.size ≤ p by rw [hp]; exact HI.out.1.touch.size)
      rw [← hw8, ← hp]
      clear hw8 hp
      refine Pe_begin (S := fun W : World => W.heap[N5]? = some (.cells #[.bool true, .slice ka ks.length kc, .slice va hs2.length vc, .slice ia zs.length ic] 26 (0, 0))) (X := 7) (by kernel_rfl) ?_
      have hS : (fun W : World => W.heap[N5]? = some (.cells #[.bool true, .slice ka ks.length kc, .slice va hs2.length vc, .slice ia zs.length ic] 26 (0, 0))) w8.drew := HP9.out.box
      refine Pe_put (i := 0) 45 (v := .pointer (some ⟨N5, 1, none⟩)) rfl rfl (by kernel_rfl) (by kernel_rfl) (by kernel_rfl) (by kernel_rfl) (fun _ _ _ h => h) (Or.inl ⟨by rfl, fun w' hw' => ?_⟩) hS ?_
      · go_simp
      simp only [Act.put, List.setIfInBounds_toArray, List.set_cons_zero, List.set_cons_succ]
      refine Pe_put (i := 1) 46 (v := .slice ka ks.length kc) rfl rfl (by kernel_rfl) (by kernel_rfl) (by kernel_rfl) (by kernel_rfl) (fun _ _ _ h => h) (Or.inl ⟨by rfl, fun w' hw' => ?_⟩) hS ?_
      · (have c := cellOf hw' 1; clear hw'; go_simp)
      simp only [Act.put, List.setIfInBounds_toArray, List.set_cons_zero, List.set_cons_succ]
      refine Pe_put (i := 2) 47 (v := .pointer (some ⟨p, 0, none⟩)) rfl rfl (by kernel_rfl) (by kernel_rfl) (by kernel_rfl) (by kernel_rfl) (fun _ _ _ h => h) (Or.inl ⟨by rfl, fun w' hw' => ?_⟩) hS ?_
      · go_simp
      simp only [Act.put, List.setIfInBounds_toArray, List.set_cons_zero, List.set_cons_succ]
      refine Pe_call (i := 3) 48 52 #[.pointer (some ⟨p, 0, none⟩), .int .i64 40] (by kernel_rfl) rfl rfl (by rfl) (by go_simp) (show Calls Try.prog 52 #[.pointer (some ⟨p, 0, none⟩), .int .i64 40] w8.drew (PS w8.drew p (.string ⟨(N.pkey c).toArray⟩) (N.pst1 c)) from rtext_any 40 (by decide) (HR9.out.adds (adds_dr w8))) ?_
      rintro e wa9 ⟨rfl, hra9, hTa9⟩
      have HPa9 := hid ((HP9.out.adds (adds_dr w8)).read (HR9.out.adds (adds_dr w8)) HPl.out hTa9)
      have HRa9 := hid hra9
      clear hra9 hTa9 hS
      have hS : (fun W : World => W.heap[N5]? = some (.cells #[.bool true, .slice ka ks.length kc, .slice va hs2.length vc, .slice ia zs.length ic] 26 (0, 0))) wa9 := HPa9.out.box
      refine ⟨_, rfl, fun _ => hS, ?_⟩
      simp only [Act.put, List.setIfInBounds_toArray, List.set_cons_zero, List.set_cons_succ]
      have HPQ9 := HPa9
      have HRQ9 := HRa9
      have hSb : (fun W : World => W.heap[N5]? = some (.cells #[.bool true, .slice ka ks.length kc, .slice va hs2.length vc, .slice ia zs.length ic] 26 (0, 0))) (wa9.alloc (.cells #[.string ⟨(N.pkey c).toArray⟩] 9)) := box_adds hS ((Touch.refl _ wa9).alloc _)
      refine Pe_all (rs := [4]) (by kernel_rfl) (by simp) (fun jj hj => ?_)
      obtain rfl := List.mem_singleton.1 hj
      refine EO_value 49 (v := .slice (some ⟨wa9.heap.size, 0, none⟩) 1 1) (w' := wa9.alloc (.cells #[.string ⟨(N.pkey c).toArray⟩] 9)) rfl rfl (by rfl) (by go_simp) hSb ?_
      clear hS; have hS := hSb; clear hSb
      simp only [Act.put, List.setIfInBounds_toArray, List.set_cons_zero, List.set_cons_succ]
      have HPb9 := hid (HPQ9.out.adds ((Touch.refl _ wa9).alloc (.cells #[.string ⟨(N.pkey c).toArray⟩] 9)))
      have HRb9 := hid (HRQ9.out.adds ((Touch.refl _ wa9).alloc (.cells #[.string ⟨(N.pkey c).toArray⟩] 9)))
      obtain ⟨i9, hi9, hz9, hs9, hb9⟩ := infoES
      refine Pe_do (i := 5) (some 50) (by kernel_rfl) rfl rfl rfl (fun K' hK => ?_)
      refine wp_append_cold 22 9 i9 (.string ⟨#[]⟩) 16 Try.underlying22 hi9 hz9 hs9 hb9 (by decide) rfl rfl (fun _ h => by cases h) (.tmp 46) (.tmp 49) rfl wc.heap.size (.slice ka ks.length kc) ks.length _ rfl HPb9.out.own.keys HPb9.out.ck wa9.heap.size (.string ⟨(N.pkey c).toArray⟩) rfl (cellOf (heap_alloc_new wa9 _) 0) rfl (fun _ h => by cases h) (HLn9.out) HPb9.out.touch.size ?_
      intro v9 w9' r1 r2 r3 r4
      obtain ⟨a9, c9, hv9, hbx9, hpz9⟩ := HPb9.out.key  r1 r2 r4
      have HRc9 := hid ((HRb9.out.grown HPb9.out.own.keys (by decide) HPb9.out.ck r2).boxed (j := 1) (v := v9) hbx9)
      subst hv9
      have HPc9 := hid hpz9
      have HBx9 := hid hbx9
      clear hS r1 r2 r3 r4 hpz9 hbx9 hi9 hz9 hs9 hb9
      have hS : (fun W : World => W.heap[N5]? = some (.cells #[.bool true, .slice ka ks.length kc, .slice va hs2.length vc, .slice ia zs.length ic] 26 (0, 0))) w9' := HBx9.out
      refine hK _ _ (fun _ => hS) ?_
      simp only [Act.put, List.setIfInBounds_toArray, List.set_cons_zero, List.set_cons_succ]
      refine Pe_put (i := 6) 51 (v := .pointer (some ⟨N5, 1, none⟩)) rfl rfl (by kernel_rfl) (by kernel_rfl) (by kernel_rfl) (by kernel_rfl) (fun _ _ _ h => h) (Or.inl ⟨by rfl, fun w' hw' => ?_⟩) hS ?_
      · go_simp
      simp only [Act.put, List.setIfInBounds_toArray, List.set_cons_zero, List.set_cons_succ]
      have q1 := box_free HBx9.out 1
      have q3 := cellOf HBx9.out 1
      refine Pe_do (i := 7) none (by kernel_rfl) rfl rfl rfl (fun K' hK => ?_)
      clear hS
      go_simp
      refine hK undef _ (fun h => absurd rfl h) (Pe_done (by kernel_rfl) ?_ _)
      clear q1 q3
      simp only [Act.put]
      obtain ⟨w10, hw10⟩ : ∃ w10, w10 = w9'.setCell ⟨N5, 1, none⟩ (.slice a9 (ks.length + 1) c9) := ⟨_, rfl⟩
      have HP10 := hid (show Rz wc w10 N5 true ⟨true, a9, c9, ks ++ [N.pkey c], ⟨va, vc, hs2⟩, ia, ic, zs⟩ by rw [hw10]; exact HPc9.out)
      have HR10 := hid (show IsS w10 p (N.pst1 c) by rw [hw10]; exact HRc9.out)
      rw [← hw10]
      clear hw10
      obtain ⟨d0, d1, d2, d3⟩ := box_cells HP10.out.box
      go_upto_region 11 with fail
      clear d0 d1 d2 d3
      refine Pe_begin (S := fun W : World => W.heap[N5]? = some (.cells #[.bool true, .slice a9 (ks ++ [N.pkey c]).length c9, .slice va hs2.length vc, .slice ia zs.length ic] 26 (0, 0))) (X := 8) (by kernel_rfl) ?_
      have hS : (fun W : World => W.heap[N5]? = some (.cells #[.bool true, .slice a9 (ks ++ [N.pkey c]).length c9, .slice va hs2.length vc, .slice ia zs.length ic] 26 (0, 0))) w10.drew := HP10.out.box
      refine Pe_put (i := 0) 54 (v := .pointer (some ⟨N5, 2, none⟩)) rfl rfl (by kernel_rfl) (by kernel_rfl) (by kernel_rfl) (by kernel_rfl) (fun _ _ _ h => h) (Or.inl ⟨by rfl, fun w' hw' => ?_⟩) hS ?_
      · go_simp
      simp only [Act.put, List.setIfInBounds_toArray, List.set_cons_zero, List.set_cons_succ]
      refine Pe_put (i := 1) 55 (v := .slice va hs2.length vc) rfl rfl (by kernel_rfl) (by kernel_rfl) (by kernel_rfl) (by kernel_rfl) (fun _ _ _ h => h) (Or.inl ⟨by rfl, fun w' hw' => ?_⟩) hS ?_
      · (have c := cellOf hw' 2; clear hw'; go_simp)
      simp only [Act.put, List.setIfInBounds_toArray, List.set_cons_zero, List.set_cons_succ]
      refine Pe_put (i := 2) 56 (v := .pointer (some ⟨p, 0, none⟩)) rfl rfl (by kernel_rfl) (by kernel_rfl) (by kernel_rfl) (by kernel_rfl) (fun _ _ _ h => h) (Or.inl ⟨by rfl, fun w' hw' => ?_⟩) hS ?_
      · go_simp
      simp only [Act.put, List.setIfInBounds_toArray, List.set_cons_zero, List.set_cons_succ]
      refine Pe_call (i := 3) 57 52 #[.pointer (some ⟨p, 0, none⟩), .int .i64 49] (by kernel_rfl) rfl rfl (by rfl) (by go_simp) (show Calls Try.prog 52 #[.pointer (some ⟨p, 0, none⟩), .int .i64 49] w10.drew (PS w10.drew p (.string ⟨(N.pval c).toArray⟩) (N.pst2 true c)) from rtext_any 49 (by decide) (HR10.out.adds (adds_dr w10))) ?_
      rintro e wa10 ⟨rfl, hra10, hTa10⟩
      have HPa10 := hid ((HP10.out.adds (adds_dr w10)).read (HR10.out.adds (adds_dr w10)) HPl.out hTa10)
      have HRa10 := hid hra10
      clear hra10 hTa10 hS
      have hS : (fun W : World => W.heap[N5]? = some (.cells #[.bool true, .slice a9 (ks ++ [N.pkey c]).length c9, .slice va hs2.length vc, .slice ia zs.length ic] 26 (0, 0))) wa10 := HPa10.out.box
      refine ⟨_, rfl, fun _ => hS, ?_⟩
      simp only [Act.put, List.setIfInBounds_toArray, List.set_cons_zero, List.set_cons_succ]
      obtain ⟨sc, ws, hcv, hpt, hAs⟩ := str_pt (N.pval c) wa10
      have hcv2 : (convert 9 30 (.string ⟨(N.pval c).toArray⟩)).run Try.prog wa10 = .ok (.slice (some ⟨wa10.heap.size, 0, none⟩) (N.pval c).length sc) ws := hcv
      have hSs : (fun W : World => W.heap[N5]? = some (.cells #[.bool true, .slice a9 (ks ++ [N.pkey c]).length c9, .slice va hs2.length vc, .slice ia zs.length ic] 26 (0, 0))) ws := box_adds hS hAs
      refine Pe_all (rs := [4]) (by kernel_rfl) (by simp) (fun jj hj => ?_)
      obtain rfl := List.mem_singleton.1 hj
      refine EO_value 58 (v := .slice (some ⟨wa10.heap.size, 0, none⟩) (N.pval c).length sc) (w' := ws) rfl rfl (by rfl) (by go_simp) hSs ?_
      clear hS hcv hcv2; have hS := hSs; clear hSs
      simp only [Act.put, List.setIfInBounds_toArray, List.set_cons_zero, List.set_cons_succ]
      have HPQ10 := hid (HPa10.out.adds hAs)
      have HRQ10 := hid (HRa10.out.adds hAs)
      have HPt := hid (hpt.lower HPa10.out.touch.size)
      clear hpt hAs
      have hSb : (fun W : World => W.heap[N5]? = some (.cells #[.bool true, .slice a9 (ks ++ [N.pkey c]).length c9, .slice va hs2.length vc, .slice ia zs.length ic] 26 (0, 0))) (ws.alloc (.cells #[.slice (some ⟨wa10.heap.size, 0, none⟩) (N.pval c).length sc] 30)) := box_adds hS ((Touch.refl _ ws).alloc _)
      refine Pe_all (rs := [5]) (by kernel_rfl) (by simp) (fun jj hj => ?_)
      obtain rfl := List.mem_singleton.1 hj
      refine EO_value 59 (v := .slice (some ⟨ws.heap.size, 0, none⟩) 1 1) (w' := ws.alloc (.cells #[.slice (some ⟨wa10.heap.size, 0, none⟩) (N.pval c).length sc] 30)) rfl rfl (by rfl) (by go_simp) hSb ?_
      clear hS; have hS := hSb; clear hSb
      simp only [Act.put, List.setIfInBounds_toArray, List.set_cons_zero, List.set_cons_succ]
      have HPb10 := hid (HPQ10.out.adds ((Touch.refl _ ws).alloc (.cells #[.slice (some ⟨wa10.heap.size, 0, none⟩) (N.pval c).length sc] 30)))
      have HRb10 := hid (HRQ10.out.adds ((Touch.refl _ ws).alloc (.cells #[.slice (some ⟨wa10.heap.size, 0, none⟩) (N.pval c).length sc] 30)))
      obtain ⟨i10, hi10, hz10, hs10, hb10⟩ := infoEB
      refine Pe_do (i := 6) (some 60) (by kernel_rfl) rfl rfl rfl (fun K' hK => ?_)
      refine wp_append_cold 23 30 i10 (.slice none 0 0) 24 Try.underlying23 hi10 hz10 hs10 hb10 (by decide) rfl rfl (fun _ h => by cases h) (.tmp 55) (.tmp 59) rfl wc.heap.size (.slice va hs2.length vc) hs2.length _ rfl HPb10.out.own.vals HPb10.out.cv ws.heap.size (.slice (some ⟨wa10.heap.size, 0, none⟩) (N.pval c).length sc) rfl (cellOf (heap_alloc_new ws _) 0) rfl (fun _ h => by cases h) (HLn10.out) HPb10.out.touch.size ?_
      intro v10 w10' r1 r2 r3 r4
      obtain ⟨a10, c10, hv10, hbx10, hpz10⟩ := HPb10.out.value (y := ⟨some ⟨wa10.heap.size, 0, none⟩, N.pval c, sc⟩) (HPt.out.adds ((Touch.refl _ ws).alloc _)) r1 r2 r4
      have HRc10 := hid ((HRb10.out.grown HPb10.out.own.vals (by decide) HPb10.out.cv r2).boxed (j := 2) (v := v10) hbx10)
      subst hv10
      have HPc10 := hid hpz10
      have HBx10 := hid hbx10
      clear hS r1 r2 r3 r4 hpz10 hbx10 hi10 hz10 hs10 hb10
      have hS : (fun W : World => W.heap[N5]? = some (.cells #[.bool true, .slice a9 (ks ++ [N.pkey c]).length c9, .slice va hs2.length vc, .slice ia zs.length ic] 26 (0, 0))) w10' := HBx10.out
      refine hK _ _ (fun _ => hS) ?_
      simp only [Act.put, List.setIfInBounds_toArray, List.set_cons_zero, List.set_cons_succ]
      refine Pe_put (i := 7) 61 (v := .pointer (some ⟨N5, 2, none⟩)) rfl rfl (by kernel_rfl) (by kernel_rfl) (by kernel_rfl) (by kernel_rfl) (fun _ _ _ h => h) (Or.inl ⟨by rfl, fun w' hw' => ?_⟩) hS ?_
      · go_simp
      simp only [Act.put, List.setIfInBounds_toArray, List.set_cons_zero, List.set_cons_succ]
      have q1 := box_free HBx10.out 2
      have q3 := cellOf HBx10.out 2
      refine Pe_do (i := 8) none (by kernel_rfl) rfl rfl rfl (fun K' hK => ?_)
      clear hS
      go_simp
      refine hK undef _ (fun h => absurd rfl h) (Pe_done (by kernel_rfl) ?_ _)
      clear q1 q3
      simp only [Act.put]
      obtain ⟨w12, hw12⟩ : ∃ w12, w12 = w10'.setCell ⟨N5, 2, none⟩ (.slice a10 (hs2.length + 1) c10) := ⟨_, rfl⟩
      have HP12 := hid (show Rz wc w12 N5 true ⟨true, a9, c9, ks ++ [N.pkey c], ⟨a10, c10, hs2 ++ [⟨some ⟨wa10.heap.size, 0, none⟩, N.pval c, sc⟩]⟩, ia, ic, zs⟩ by rw [hw12]; exact HPc10.out)
      have HNd2 := hid (show (⟨true, ks ++ [N.pkey c], (hs2 ++ [(⟨some ⟨wa10.heap.size, 0, none⟩, N.pval c, sc⟩ : Part)]).map (·.bs), zs⟩ : N.Nd) = N.pnode true (cl.take (k + 1)) by
        rw [HCk.out, pnode_snoc, ← HI.out.2.1]
        have e3 : zs = [] := congrArg N.Nd.kids HI.out.2.1
        simp [NM.nd, Pl.bs, e3])
      have HR12 := hid (show IsS w12 p (N.pst2 true c) by rw [hw12]; exact HRc10.out)
      rw [← hw12]
      clear hw12
      obtain ⟨er, her⟩ : ∃ er, er = M.endE (N.pst2 true c) := ⟨_, rfl⟩
      have HEr := hid her
      have HEn := hid (rend_any HR12.out)
      rw [← her] at HEn
      clear her
      by_cases h0 : er = 0
      · subst h0
        go_wp2_with (go_at_call 54; refine HEn.out.mono ?_; rintro e w13 ⟨rfl, hw⟩; rw [hw]; clear hw)
        go_roundw
        case rel =>
          refine ⟨k + 1, _, _, _, _, _, _, _, _, _, by omega, by go_num, HP12.out, HNd2.out, fun c' hc' => ?_⟩
          rw [HCk.out] at hc'
          rcases List.mem_append.1 hc' with hc' | hc'
          · exact HI.out.2.2 c' hc'
          · rw [List.mem_singleton.1 hc']; unfold N.pbad; rw [← HEr.out]; rfl
        case measure => simp [intOf]; omega
      · have h0z : ((er : Int) != 0) = true := by simpa using h0
        have HBad := hid (show N.pbad true c = true by unfold N.pbad; rw [← HEr.out]; simpa using h0)
        have HB12 := hid (show w12.heap[N1]? = some RZ by
          rw [(HP12.out.touch).block N1 (Array.getElem?_eq_some_iff.1 HB1c.out).1 HN15.out]; exact HB1c.out)
        clear h0
        go_wp2_with (first
          | (go_at_call 54; refine HEn.out.mono ?_; rintro e w13 ⟨rfl, hw⟩; rw [hw]; clear hw)
          | (refine wpList_store_row rfl 26 _ _ rfl N1 #[.bool false, .slice .none 0 0, .slice .none 0 0, .slice .none 0 0] rfl rfl 26 _ HB12.out (infoR4 _ _ _ _) rfl (one4 _ _ _ _ _ _ _ _ _ _) ?_))
        refine bodyPost_ret (results_r2 rfl _ _ N1 _ rfl (setRow_heap w12 N1 _ _ 26 _ HB12.out) rfl) rfl ?_
        rw [HNo.out (List.any_eq_true.2 ⟨c, HMem.out, HBad.out⟩)]
        exact rptnode_end (z := NM.none) rfl rfl (NOwn.none _ _) (HAc.out.then HP12.out.touch (fun j hj e => by have := HN5.out; omega)) HB12.out HL.out _
    · obtain rfl : k = cn := by omega
      have hlz : ¬ (k : Int) < (k : Int) := by omega
      have htk : cl.take k = cl := by rw [HCn.out, List.take_length]
      have HNd3 := hid (show (⟨true, ks, hs2.map (·.bs), zs⟩ : N.Nd) = N.pnode true cl by have q := HI.out.2.1; rw [htk] at q; exact q)
      have HE := hid (HYes.out (by
        rw [List.any_eq_false]
        intro c hc
        have q := HI.out.2.2 c (by rw [htk]; exact hc)
        rw [q]; decide))
      have HB1r := hid (show wr.heap[N1]? = some RZ by rw [(HI.out.1.touch).block N1 (Array.getElem?_eq_some_iff.1 HB1c.out).1 HN15.out]; exact HB1c.out)
      have HAr := hid (HAc.out.then HI.out.1.touch (fun j hj e => by have := HN5.out; omega))
      obtain ⟨rt, hrt⟩ : ∃ r, r = N.right (N.pnode true cl) := ⟨_, rfl⟩
      have HRt := hid (show Calls Try.prog 16 #[.agg #[.bool true, .slice ka ks.length kc, .slice va hs2.length vc, .slice ia zs.length ic]] wr (Adding (.bool rt) wr) by
        have e : NM.nd ⟨true, ka, kc, ks, ⟨va, vc, hs2⟩, ia, ic, zs⟩ = N.pnode true cl := HNd3.out
        have q := rright_any ⟨true, ka, kc, ks, ⟨va, vc, hs2⟩, ia, ic, zs⟩ wr HI.out.1.own.nq (N.Bd.ns (m := 1000) (by rw [e]; exact pnode_bd true cl (by rw [← HCn.out]; omega)) (by decide))
        rw [e, ← hrt] at q
        exact q)
      have HBp := hid (show wr.heap[N4]? = some (.cells #[.int .i64 no, .int .u8 5, .slice ca k cc] 84 (0, 0)) by rw [(HI.out.1.touch).block N4 (Array.getElem?_eq_some_iff.1 HB4c.out).1 HN45.out]; exact HB4c.out)
      obtain ⟨_, _, p2⟩ := pbox HBp.out
      cases rt with
      | false =>
        have HE2 := hid (show N.parse bs = (N.nil, 22) by rw [HE.out]; unfold N.told; rw [if_neg (by rw [← hrt]; decide)])
        clear htk hrt
        go_wp2_with (first
          | (refine wpList_load_row rfl 26 _ rfl N5 rfl 26 _ _ _ HI.out.1.box Try.underlying26 rfl (infoR4 _ _ _ _) ?_)
          | (go_at_call 16; refine HRt.out.mono ?_; rintro e w5 ⟨rfl, hA5⟩; have H5 := hid hA5; have HB5r := hid (box_adds HB1r.out hA5); clear hA5)
          | (refine wpList_store_row rfl 26 _ _ rfl N1 #[.bool false, .slice .none 0 0, .slice .none 0 0, .slice .none 0 0] rfl rfl 26 _ HB5r.out (infoR4 _ _ _ _) rfl (one4 _ _ _ _ _ _ _ _ _ _) ?_))
        refine bodyPost_ret (results_r2 rfl _ _ N1 _ rfl (setRow_heap w5 N1 _ _ 26 _ HB5r.out) rfl) rfl ?_
        rw [HE2.out]
        exact rptnode_end (z := NM.none) rfl rfl (NOwn.none _ _) (HAr.out.trans H5.out) HB5r.out HL.out _
      | true =>
        have HE2 := hid (show N.parse bs = (N.pnode true cl, 0) by rw [HE.out]; unfold N.told; rw [if_pos hrt.symm])
        clear htk hrt
        go_wp2_with (first
          | (refine wpList_load_row rfl 26 _ rfl N5 rfl 26 _ _ _ (box_adds HI.out.1.box H5.out) Try.underlying26 rfl (infoR4 _ _ _ _) ?_)
          | (refine wpList_load_row rfl 26 _ rfl N5 rfl 26 _ _ _ HI.out.1.box Try.underlying26 rfl (infoR4 _ _ _ _) ?_)
          | (go_at_call 16; refine HRt.out.mono ?_; rintro e w5 ⟨rfl, hA5⟩; have H5 := hid hA5; have HB5r := hid (box_adds HB1r.out hA5); clear hA5)
          | (refine wpList_store_row rfl 26 _ _ rfl N1 #[.bool true, .slice ka ks.length kc, .slice va hs2.length vc, .slice ia zs.length ic] rfl rfl 26 _ HB5r.out (infoR4 _ _ _ _) rfl (one4 _ _ _ _ _ _ _ _ _ _) ?_))
        refine bodyPost_ret (results_r2 rfl _ _ N1 _ rfl (setRow_heap w5 N1 _ _ 26 _ HB5r.out) rfl) rfl ?_
        rw [HE2.out]
        exact rptnode_end (z := ⟨true, ka, kc, ks, ⟨va, vc, hs2⟩, ia, ic, zs⟩) (show NM.nd ⟨true, ka, kc, ks, ⟨va, vc, hs2⟩, ia, ic, zs⟩ = (N.pnode true cl, 0).1 from HNd3.out) rfl ((HI.out.1.own.adds H5.out).lower HAc.out.size) (HAr.out.trans H5.out) HB5r.out HL.out _
set_option maxRecDepth 100000 in
set_option maxHeartbeats 16000000 in
theorem rparse14_inner (a : Option Addr) (bs : List UInt8) (n cap : Nat) (w : World) (hn : bs.length = n) (hc : n ≤ cap) (hA : At w a bs) (hk : M.kindP bs = 6) : Calls Try.prog 23 #[.slice a n cap] w (PTnode w (N.parse bs)) := by
  obtain ⟨cl, hcl⟩ : ∃ cl, cl = M.cellsP bs := ⟨_, rfl⟩
  obtain ⟨hc244, hc122⟩ : (∀ c ∈ M.cellsP bs, c.length ≤ 244) ∧ (M.cellsP bs).length ≤ 122 := by
    cases hR : M.readP bs with
    | none => rw [(M.none_all hR).2.2.1]; exact ⟨fun c h => (by cases h), by decide⟩
    | some p => rw [(M.some_all hR).2.2.1]; exact ⟨fun c h => cell_len (M.read_ok hR).1 h, (M.read_ok hR).1.count.1⟩
  rw [← hcl] at hc244 hc122
  have HNo := hid (show cl.any (N.pbad false) = true → N.parse bs = (N.nil, 22) from fun h => by
    unfold N.parse
    rw [hk, ← hcl, if_neg (by decide), show ((6 : UInt8) == 5) = false from rfl, if_pos h])
  have HYes := hid (show cl.any (N.pbad false) = false → N.parse bs = N.told (N.pnode false cl) from fun h => by
    unfold N.parse
    rw [hk, ← hcl, if_neg (by decide), show ((6 : UInt8) == 5) = false from rfl, if_neg (by rw [h]; decide)])
  obtain ⟨N1, hN1⟩ : ∃ N1, N1 = w.heap.size := ⟨_, rfl⟩
  obtain ⟨w1, hw1⟩ : ∃ w1, w1 = w.alloc RZ := ⟨_, rfl⟩
  have HA1 := hid (show Adds w w1 by rw [hw1]; exact (Touch.refl _ w).alloc _)
  have HB1 := hid (show w1.heap[N1]? = some RZ by rw [hw1, hN1]; exact heap_alloc_new w _)
  have HL := hid (show w.heap.size ≤ N1 by omega)
  obtain ⟨cn, hcn⟩ : ∃ cn, cn = cl.length := ⟨_, rfl⟩
  have HP := hid (show Calls Try.prog 51 #[.slice a n cap] w1 (PPd w1 cl cn 6) from PParse.nd (rparse_any a bs n cap w1 hn hc (hA.adds HA1.out)) hcl hcn hk (by decide))
  have hcn9 : cn ≤ 122 := by rw [hcn]; exact hc122
  have HCn := hid hcn
  have H244 := hid hc244
  clear hn hc hA hk hcl hc244 hc122 hcn
  go_enter Try.func23, Try.ntmps23
  go_upto_region 1 with fail
  rw [← hw1, ← hN1]
  clear hw1 hN1
  go_upto_region 2 with (first
    | (go_at_call 51; refine HP.out.mono ?_; rintro e w2 ⟨no, ca, cc, hs, rfl, Hc2⟩)
    | (refine wpList_store_row rfl 84 _ _ rfl w2.heap.size #[.int .i64 no, .int .u8 6, .slice ca cn cc] rfl rfl 84 _ (heap_alloc_new w2 PgZ) (infoPg3 _ _ _) rfl (one3p _ _ _ _ _) ?_))
  clear HP
  obtain ⟨N4, hN4⟩ : ∃ N4, N4 = w2.heap.size := ⟨_, rfl⟩
  obtain ⟨w3, hw3⟩ : ∃ w3, w3 = (w2.alloc PgZ).setRow w2.heap.size #[.int .i64 no, .int .u8 6, .slice ca cn cc] := ⟨_, rfl⟩
  have HB4 := hid (show w3.heap[N4]? = some (.cells #[.int .i64 no, .int .u8 6, .slice ca cn cc] 84 (0, 0)) by rw [hw3, hN4]; exact setRow_heap (w2.alloc PgZ) w2.heap.size _ _ 84 _ (heap_alloc_new w2 PgZ))
  have HA23 := hid (show Adds w2 w3 by rw [hw3]; exact ((Touch.refl (fun _ => False) w2).alloc PgZ).then (touch_row (w2.alloc PgZ) w2.heap.size _) (fun j hj e => by omega))
  have HN4 := hid (show w.heap.size ≤ N4 ∧ ¬ N1 = N4 by
    have h1 := (Array.getElem?_eq_some_iff.1 (box_adds HB1.out Hc2.out.2.2.1)).1
    have h2 := (HA1.out.trans Hc2.out.2.2.1).size
    omega)
  rw [← hw3, ← hN4]
  clear hw3 hN4
  obtain ⟨_, p1, _⟩ := pbox HB4.out
  go_upto_region 4 with fail
  go_upto_region 5 with (refine wpList_store_row rfl 26 _ _ rfl w3.heap.size #[.bool false, .slice .none 0 0, .slice .none 0 0, .slice .none 0 0] rfl rfl 26 _ (heap_alloc_new w3 RZ) (infoR4 _ _ _ _) rfl (one4 _ _ _ _ _ _ _ _ _ _) ?_)
  clear p1
  obtain ⟨N5, hN5⟩ : ∃ N5, N5 = w3.heap.size := ⟨_, rfl⟩
  obtain ⟨wc, hwc⟩ : ∃ wc, wc = (w3.alloc RZ).setRow w3.heap.size #[.bool false, .slice .none 0 0, .slice .none 0 0, .slice .none 0 0] := ⟨_, rfl⟩
  have HB5 := hid (show wc.heap[N5]? = some (.cells #[.bool false, .slice .none 0 0, .slice .none 0 0, .slice .none 0 0] 26 (0, 0)) by rw [hwc, hN5]; exact setRow_heap (w3.alloc RZ) w3.heap.size _ _ 26 _ (heap_alloc_new w3 RZ))
  have HA3c := hid (show Adds w3 wc by rw [hwc]; exact ((Touch.refl (fun _ => False) w3).alloc RZ).then (touch_row (w3.alloc RZ) w3.heap.size _) (fun j hj e => by omega))
  have HAc := hid (HA1.out.trans (Hc2.out.2.2.1.trans (HA23.out.trans HA3c.out)))
  have HB1c := hid (box_adds HB1.out (Hc2.out.2.2.1.trans (HA23.out.trans HA3c.out)))
  have HB4c := hid (box_adds HB4.out HA3c.out)
  have HN5 := hid (show w.heap.size ≤ N5 by rw [hN5]; exact (HA1.out.trans (Hc2.out.2.2.1.trans HA23.out)).size)
  have HN15 := hid (show ¬ N1 = N5 by have := (Array.getElem?_eq_some_iff.1 (box_adds HB1.out (Hc2.out.2.2.1.trans HA23.out))).1; omega)
  have HN45 := hid (show ¬ N4 = N5 by have := (Array.getElem?_eq_some_iff.1 HB4.out).1; omega)
  have HN5w := hid (show w2.heap.size ≤ N5 by rw [hN5]; exact HA23.out.size)
  rw [← hwc, ← hN5]
  clear hwc hN5
  have Hc := hid (And.intro Hc2.out.1 (And.intro ((Hc2.out.2.1.mono (Q' := fun k => k < w2.heap.size) (fun k hk _ => hk)).adds (HA23.out.trans HA3c.out)) (And.intro HAc.out (fun x hx => (Hc2.out.2.2.2 x hx).mono (HA23.out.trans HA3c.out).size))))
  have HPz0 := hid (show Rz wc wc N5 false ⟨false, none, 0, [], ⟨none, 0, []⟩, none, 0, []⟩ from
    ⟨Touch.refl _ _, ⟨World.ownsRow_nil _ _ _ _, World.ownsRow_nil _ _ _ _, fun p hp => (by cases hp), World.ownsRow_nil _ _ _ _⟩, fun g hg => (by cases hg), fun g hg => (by cases hg), fun g hg => (by cases hg), HB5.out, rfl⟩)
  have HLh := hid (show hs.length = cn by rw [HCn.out, ← Hc.out.1, List.length_map])
  go_upto_region 6 with fail
  go_loopw [7] (fun t wx => ∃ (k : Nat) (ka : Option Addr) (kc : Nat) (ks : List (List UInt8)) (va : Option Addr) (vc : Nat) (hs2 : List Part) (ia : Option Addr) (ic : Nat) (zs : List Int), k ≤ cn ∧ t = .int .i64 (k : Int) ∧ Hid (Rz wc wx N5 false ⟨false, ka, kc, ks, ⟨va, vc, hs2⟩, ia, ic, zs⟩ ∧ NM.nd ⟨false, ka, kc, ks, ⟨va, vc, hs2⟩, ia, ic, zs⟩ = N.pnode false (cl.take k) ∧ ∀ c ∈ cl.take k, N.pbad false c = false)) (fun t _ => cn - (intOf t).toNat)
  case atStart => exact ⟨0, none, 0, [], none, 0, [], none, 0, [], Nat.zero_le _, rfl, HPz0.out, rfl, fun c hc => by cases hc⟩
  case round =>
    obtain ⟨k, ka, kc, ks, va, vc, hs2, ia, ic, zs, hk, rfl, HI⟩ := hrel
    by_cases hlt : k < cn
    · have hlz : (k : Int) < (cn : Int) := by omega
      have hkh : k < hs.length := by rw [HLh.out]; exact hlt
      have hkc : k < cl.length := by rw [← HCn.out]; exact hlt
      have HGq := (Hc.out.2.1.touch HI.out.1.touch (fun j hj c => by have := HN5w.out; omega))
      obtain ⟨b, o, ea, hcell⟩ := HGq.cell hkh
      obtain ⟨y, hy⟩ : ∃ y, y = hs[k] := ⟨_, rfl⟩
      obtain ⟨c, hcE⟩ : ∃ c, c = cl[k] := ⟨_, rfl⟩
      have hyc : y.bs = c := by
        have q : (hs.map (·.bs))[k]? = cl[k]? := by rw [Hc.out.1]
        rw [List.getElem?_map, List.getElem?_eq_getElem hkh, List.getElem?_eq_getElem hkc] at q
        rw [hy, hcE]; exact Option.some.inj q
      have HMem := hid (show c ∈ cl by rw [hcE]; exact List.getElem_mem hkc)
      have HCk := hid (show cl.take (k + 1) = cl.take k ++ [c] by rw [List.take_add_one, List.getElem?_eq_getElem hkc, hcE]; rfl)
      have hyq := HGq.all hs[k] (List.getElem_mem hkh)
      rw [← hy] at hcell hyq
      obtain ⟨m, hm⟩ : ∃ m, m = y.bs.length := ⟨_, rfl⟩
      have hm9 : m ≤ 244 := by rw [hm, hyc]; exact H244.out c HMem.out
      have hcell' : wr.cell? ⟨b, o + k, none⟩ = some (.slice y.a m y.cap) := by rw [hm]; exact hcell
      have HRm := hid (show Rm wr.heap.size ⟨y.a, c, y.cap⟩ by
        have q := (Hc.out.2.2.2 hs[k] (List.getElem_mem hkh)).mono HI.out.1.touch.size
        rw [← hy] at q; rw [← hyc]; exact q)
      have HYq := hid (show PQ wr (fun j => j < w2.heap.size) ⟨y.a, c, y.cap⟩ by rw [← hyc]; exact hyq)
      have HMc := hid (show m = c.length by rw [hm, hyc])
      have HBp := hid (show wr.heap[N4]? = some (.cells #[.int .i64 no, .int .u8 6, .slice ca cn cc] 84 (0, 0)) by rw [(HI.out.1.touch).block N4 (Array.getElem?_eq_some_iff.1 HB4c.out).1 HN45.out]; exact HB4c.out)
      have HLn := hid (show ks.length ≤ 1000000 ∧ hs2.length ≤ 1000000 ∧ zs.length ≤ 1000000 by
        have q := HI.out.2.1
        have hkt : (cl.take k).length ≤ 122 := by rw [List.length_take]; omega
        have e1 : ks = (cl.take k).map N.pkey := congrArg N.Nd.keys q
        have e2 : hs2.map (·.bs) = (N.pnode false (cl.take k)).vals := congrArg N.Nd.vals q
        have e3 : zs = (N.pnode false (cl.take k)).kids := congrArg N.Nd.kids q
        have b2 : (N.pnode false (cl.take k)).vals.length ≤ 122 := by unfold N.pnode; simp; try omega
        have b3 : (N.pnode false (cl.take k)).kids.length ≤ 122 := by unfold N.pnode; simp; try omega
        refine ⟨by rw [e1, List.length_map]; omega, by rw [← List.length_map (f := fun x : Part => x.bs), e2]; omega, by rw [e3]; omega⟩)
      have HLn9 := hid HLn.out.1
      have HLn10 := hid HLn.out.2.2
      have ea' : ca = some ⟨b, o, none⟩ := ea
      subst ea'
      clear hcell hyq hy hyc hcE hkh hkc HGq hm ea
      obtain ⟨_, _, p2⟩ := pbox HBp.out
      go_upto_region 9 with fail
      clear hcell' p2
      obtain ⟨p, hp⟩ : ∃ p, p = wr.heap.size := ⟨_, rfl⟩
      obtain ⟨w8, hw8⟩ : ∃ w8, w8 = wr.alloc (.cells #[.slice y.a m y.cap, .int .i64 0] 89) := ⟨_, rfl⟩
      have HR9 := hid (show IsS w8 p ⟨0, c⟩ by rw [hw8, hp]; exact IsS.fresh HYq.out HMc.out HRm.out (by omega))
      have HP9 := hid (show Rz wc w8 N5 false ⟨false, ka, kc, ks, ⟨va, vc, hs2⟩, ia, ic, zs⟩ by rw [hw8]; exact HI.out.1.adds ((Touch.refl _ wr).alloc _))
      have HPl := hid (show wc.heap.size ≤ p by rw [hp]; exact HI.out.1.touch.size)
      rw [← hw8, ← hp]
      clear hw8 hp
      refine Pe_begin (S := fun W : World => W.heap[N5]? = some (.cells #[.bool false, .slice ka ks.length kc, .slice va hs2.length vc, .slice ia zs.length ic] 26 (0, 0))) (X := 7) (by kernel_rfl) ?_
      have hS : (fun W : World => W.heap[N5]? = some (.cells #[.bool false, .slice ka ks.length kc, .slice va hs2.length vc, .slice ia zs.length ic] 26 (0, 0))) w8.drew := HP9.out.box
      refine Pe_put (i := 0) 45 (v := .pointer (some ⟨N5, 1, none⟩)) rfl rfl (by kernel_rfl) (by kernel_rfl) (by kernel_rfl) (by kernel_rfl) (fun _ _ _ h => h) (Or.inl ⟨by rfl, fun w' hw' => ?_⟩) hS ?_
      · go_simp
      simp only [Act.put, List.setIfInBounds_toArray, List.set_cons_zero, List.set_cons_succ]
      refine Pe_put (i := 1) 46 (v := .slice ka ks.length kc) rfl rfl (by kernel_rfl) (by kernel_rfl) (by kernel_rfl) (by kernel_rfl) (fun _ _ _ h => h) (Or.inl ⟨by rfl, fun w' hw' => ?_⟩) hS ?_
      · (have c := cellOf hw' 1; clear hw'; go_simp)
      simp only [Act.put, List.setIfInBounds_toArray, List.set_cons_zero, List.set_cons_succ]
      refine Pe_put (i := 2) 47 (v := .pointer (some ⟨p, 0, none⟩)) rfl rfl (by kernel_rfl) (by kernel_rfl) (by kernel_rfl) (by kernel_rfl) (fun _ _ _ h => h) (Or.inl ⟨by rfl, fun w' hw' => ?_⟩) hS ?_
      · go_simp
      simp only [Act.put, List.setIfInBounds_toArray, List.set_cons_zero, List.set_cons_succ]
      refine Pe_call (i := 3) 48 52 #[.pointer (some ⟨p, 0, none⟩), .int .i64 40] (by kernel_rfl) rfl rfl (by rfl) (by go_simp) (show Calls Try.prog 52 #[.pointer (some ⟨p, 0, none⟩), .int .i64 40] w8.drew (PS w8.drew p (.string ⟨(N.pkey c).toArray⟩) (N.pst1 c)) from rtext_any 40 (by decide) (HR9.out.adds (adds_dr w8))) ?_
      rintro e wa9 ⟨rfl, hra9, hTa9⟩
      have HPa9 := hid ((HP9.out.adds (adds_dr w8)).read (HR9.out.adds (adds_dr w8)) HPl.out hTa9)
      have HRa9 := hid hra9
      clear hra9 hTa9 hS
      have hS : (fun W : World => W.heap[N5]? = some (.cells #[.bool false, .slice ka ks.length kc, .slice va hs2.length vc, .slice ia zs.length ic] 26 (0, 0))) wa9 := HPa9.out.box
      refine ⟨_, rfl, fun _ => hS, ?_⟩
      simp only [Act.put, List.setIfInBounds_toArray, List.set_cons_zero, List.set_cons_succ]
      have HPQ9 := HPa9
      have HRQ9 := HRa9
      have hSb : (fun W : World => W.heap[N5]? = some (.cells #[.bool false, .slice ka ks.length kc, .slice va hs2.length vc, .slice ia zs.length ic] 26 (0, 0))) (wa9.alloc (.cells #[.string ⟨(N.pkey c).toArray⟩] 9)) := box_adds hS ((Touch.refl _ wa9).alloc _)
      refine Pe_all (rs := [4]) (by kernel_rfl) (by simp) (fun jj hj => ?_)
      obtain rfl := List.mem_singleton.1 hj
      refine EO_value 49 (v := .slice (some ⟨wa9.heap.size, 0, none⟩) 1 1) (w' := wa9.alloc (.cells #[.string ⟨(N.pkey c).toArray⟩] 9)) rfl rfl (by rfl) (by go_simp) hSb ?_
      clear hS; have hS := hSb; clear hSb
      simp only [Act.put, List.setIfInBounds_toArray, List.set_cons_zero, List.set_cons_succ]
      have HPb9 := hid (HPQ9.out.adds ((Touch.refl _ wa9).alloc (.cells #[.string ⟨(N.pkey c).toArray⟩] 9)))
      have HRb9 := hid (HRQ9.out.adds ((Touch.refl _ wa9).alloc (.cells #[.string ⟨(N.pkey c).toArray⟩] 9)))
      obtain ⟨i9, hi9, hz9, hs9, hb9⟩ := infoES
      refine Pe_do (i := 5) (some 50) (by kernel_rfl) rfl rfl rfl (fun K' hK => ?_)
      refine wp_append_cold 22 9 i9 (.string ⟨#[]⟩) 16 Try.underlying22 hi9 hz9 hs9 hb9 (by decide) rfl rfl (fun _ h => by cases h) (.tmp 46) (.tmp 49) rfl wc.heap.size (.slice ka ks.length kc) ks.length _ rfl HPb9.out.own.keys HPb9.out.ck wa9.heap.size (.string ⟨(N.pkey c).toArray⟩) rfl (cellOf (heap_alloc_new wa9 _) 0) rfl (fun _ h => by cases h) (HLn9.out) HPb9.out.touch.size ?_
      intro v9 w9' r1 r2 r3 r4
      obtain ⟨a9, c9, hv9, hbx9, hpz9⟩ := HPb9.out.key  r1 r2 r4
      have HRc9 := hid ((HRb9.out.grown HPb9.out.own.keys (by decide) HPb9.out.ck r2).boxed (j := 1) (v := v9) hbx9)
      subst hv9
      have HPc9 := hid hpz9
      have HBx9 := hid hbx9
      clear hS r1 r2 r3 r4 hpz9 hbx9 hi9 hz9 hs9 hb9
      have hS : (fun W : World => W.heap[N5]? = some (.cells #[.bool false, .slice ka ks.length kc, .slice va hs2.length vc, .slice ia zs.length ic] 26 (0, 0))) w9' := HBx9.out
      refine hK _ _ (fun _ => hS) ?_
      simp only [Act.put, List.setIfInBounds_toArray, List.set_cons_zero, List.set_cons_succ]
      refine Pe_put (i := 6) 51 (v := .pointer (some ⟨N5, 1, none⟩)) rfl rfl (by kernel_rfl) (by kernel_rfl) (by kernel_rfl) (by kernel_rfl) (fun _ _ _ h => h) (Or.inl ⟨by rfl, fun w' hw' => ?_⟩) hS ?_
      · go_simp
      simp only [Act.put, List.setIfInBounds_toArray, List.set_cons_zero, List.set_cons_succ]
      have q1 := box_free HBx9.out 1
      have q3 := cellOf HBx9.out 1
      refine Pe_do (i := 7) none (by kernel_rfl) rfl rfl rfl (fun K' hK => ?_)
      clear hS
      go_simp
      refine hK undef _ (fun h => absurd rfl h) (Pe_done (by kernel_rfl) ?_ _)
      clear q1 q3
      simp only [Act.put]
      obtain ⟨w10, hw10⟩ : ∃ w10, w10 = w9'.setCell ⟨N5, 1, none⟩ (.slice a9 (ks.length + 1) c9) := ⟨_, rfl⟩
      have HP10 := hid (show Rz wc w10 N5 false ⟨false, a9, c9, ks ++ [N.pkey c], ⟨va, vc, hs2⟩, ia, ic, zs⟩ by rw [hw10]; exact HPc9.out)
      have HR10 := hid (show IsS w10 p (N.pst1 c) by rw [hw10]; exact HRc9.out)
      rw [← hw10]
      clear hw10
      obtain ⟨d0, d1, d2, d3⟩ := box_cells HP10.out.box
      go_upto_region 12 with fail
      clear d0 d1 d2 d3
      refine Pe_begin (S := fun W : World => W.heap[N5]? = some (.cells #[.bool false, .slice a9 (ks ++ [N.pkey c]).length c9, .slice va hs2.length vc, .slice ia zs.length ic] 26 (0, 0))) (X := 8) (by kernel_rfl) ?_
      have hS : (fun W : World => W.heap[N5]? = some (.cells #[.bool false, .slice a9 (ks ++ [N.pkey c]).length c9, .slice va hs2.length vc, .slice ia zs.length ic] 26 (0, 0))) w10.drew := HP10.out.box
      refine Pe_put (i := 0) 62 (v := .pointer (some ⟨N5, 3, none⟩)) rfl rfl (by kernel_rfl) (by kernel_rfl) (by kernel_rfl) (by kernel_rfl) (fun _ _ _ h => h) (Or.inl ⟨by rfl, fun w' hw' => ?_⟩) hS ?_
      · go_simp
      simp only [Act.put, List.setIfInBounds_toArray, List.set_cons_zero, List.set_cons_succ]
      refine Pe_put (i := 1) 63 (v := .slice ia zs.length ic) rfl rfl (by kernel_rfl) (by kernel_rfl) (by kernel_rfl) (by kernel_rfl) (fun _ _ _ h => h) (Or.inl ⟨by rfl, fun w' hw' => ?_⟩) hS ?_
      · (have c := cellOf hw' 3; clear hw'; go_simp)
      simp only [Act.put, List.setIfInBounds_toArray, List.set_cons_zero, List.set_cons_succ]
      refine Pe_put (i := 2) 64 (v := .pointer (some ⟨p, 0, none⟩)) rfl rfl (by kernel_rfl) (by kernel_rfl) (by kernel_rfl) (by kernel_rfl) (fun _ _ _ h => h) (Or.inl ⟨by rfl, fun w' hw' => ?_⟩) hS ?_
      · go_simp
      simp only [Act.put, List.setIfInBounds_toArray, List.set_cons_zero, List.set_cons_succ]
      refine Pe_call (i := 3) 65 53 #[.pointer (some ⟨p, 0, none⟩), .int .i64 4] (by kernel_rfl) rfl rfl (by rfl) (by go_simp) (show Calls Try.prog 53 #[.pointer (some ⟨p, 0, none⟩), .int .i64 4] w10.drew (PS w10.drew p (.int .u64 (N.pkid c : Int)) (N.pst2 false c)) from rfixed_any 4 (HR10.out.adds (adds_dr w10))) ?_
      rintro e wa10 ⟨rfl, hra10, hTa10⟩
      have HPa10 := hid ((HP10.out.adds (adds_dr w10)).read (HR10.out.adds (adds_dr w10)) HPl.out hTa10)
      have HRa10 := hid hra10
      clear hra10 hTa10 hS
      have hS : (fun W : World => W.heap[N5]? = some (.cells #[.bool false, .slice a9 (ks ++ [N.pkey c]).length c9, .slice va hs2.length vc, .slice ia zs.length ic] 26 (0, 0))) wa10 := HPa10.out.box
      refine ⟨_, rfl, fun _ => hS, ?_⟩
      simp only [Act.put, List.setIfInBounds_toArray, List.set_cons_zero, List.set_cons_succ]
      have HPQ10 := HPa10
      have HRQ10 := HRa10
      refine Pe_put (i := 4) 66 (v := .int .i64 (N.pkid c : Int)) rfl rfl (by kernel_rfl) (by kernel_rfl) (by kernel_rfl) (by kernel_rfl) (fun _ _ _ h => h) (Or.inl ⟨by rfl, fun w' hw' => ?_⟩) hS ?_
      · (clear hw'; go_simp; exact pkid_wrap c)
      simp only [Act.put, List.setIfInBounds_toArray, List.set_cons_zero, List.set_cons_succ]
      have hSb : (fun W : World => W.heap[N5]? = some (.cells #[.bool false, .slice a9 (ks ++ [N.pkey c]).length c9, .slice va hs2.length vc, .slice ia zs.length ic] 26 (0, 0))) (wa10.alloc (.cells #[.int .i64 (N.pkid c : Int)] 3)) := box_adds hS ((Touch.refl _ wa10).alloc _)
      refine Pe_all (rs := [5]) (by kernel_rfl) (by simp) (fun jj hj => ?_)
      obtain rfl := List.mem_singleton.1 hj
      refine EO_value 67 (v := .slice (some ⟨wa10.heap.size, 0, none⟩) 1 1) (w' := wa10.alloc (.cells #[.int .i64 (N.pkid c : Int)] 3)) rfl rfl (by rfl) (by go_simp) hSb ?_
      clear hS; have hS := hSb; clear hSb
      simp only [Act.put, List.setIfInBounds_toArray, List.set_cons_zero, List.set_cons_succ]
      have HPb10 := hid (HPQ10.out.adds ((Touch.refl _ wa10).alloc (.cells #[.int .i64 (N.pkid c : Int)] 3)))
      have HRb10 := hid (HRQ10.out.adds ((Touch.refl _ wa10).alloc (.cells #[.int .i64 (N.pkid c : Int)] 3)))
      obtain ⟨i10, hi10, hz10, hs10, hb10⟩ := infoEI
      refine Pe_do (i := 6) (some 68) (by kernel_rfl) rfl rfl rfl (fun K' hK => ?_)
      refine wp_append_cold 24 3 i10 (.int .i64 0) 8 Try.underlying24 hi10 hz10 hs10 hb10 (by decide) rfl rfl (fun _ h => by cases h) (.tmp 63) (.tmp 67) rfl wc.heap.size (.slice ia zs.length ic) zs.length _ rfl HPb10.out.own.kids HPb10.out.ci wa10.heap.size (.int .i64 (N.pkid c : Int)) rfl (cellOf (heap_alloc_new wa10 _) 0) rfl (fun _ h => by cases h) (HLn10.out) HPb10.out.touch.size ?_
      intro v10 w10' r1 r2 r3 r4
      obtain ⟨a10, c10, hv10, hbx10, hpz10⟩ := HPb10.out.kid (kid := (N.pkid c : Int)) r1 r2 r4
      have HRc10 := hid ((HRb10.out.grown HPb10.out.own.kids (by decide) HPb10.out.ci r2).boxed (j := 3) (v := v10) hbx10)
      subst hv10
      have HPc10 := hid hpz10
      have HBx10 := hid hbx10
      clear hS r1 r2 r3 r4 hpz10 hbx10 hi10 hz10 hs10 hb10
      have hS : (fun W : World => W.heap[N5]? = some (.cells #[.bool false, .slice a9 (ks ++ [N.pkey c]).length c9, .slice va hs2.length vc, .slice ia zs.length ic] 26 (0, 0))) w10' := HBx10.out
      refine hK _ _ (fun _ => hS) ?_
      simp only [Act.put, List.setIfInBounds_toArray, List.set_cons_zero, List.set_cons_succ]
      refine Pe_put (i := 7) 69 (v := .pointer (some ⟨N5, 3, none⟩)) rfl rfl (by kernel_rfl) (by kernel_rfl) (by kernel_rfl) (by kernel_rfl) (fun _ _ _ h => h) (Or.inl ⟨by rfl, fun w' hw' => ?_⟩) hS ?_
      · go_simp
      simp only [Act.put, List.setIfInBounds_toArray, List.set_cons_zero, List.set_cons_succ]
      have q1 := box_free HBx10.out 3
      have q3 := cellOf HBx10.out 3
      refine Pe_do (i := 8) none (by kernel_rfl) rfl rfl rfl (fun K' hK => ?_)
      clear hS
      go_simp
      refine hK undef _ (fun h => absurd rfl h) (Pe_done (by kernel_rfl) ?_ _)
      clear q1 q3
      simp only [Act.put]
      obtain ⟨w12, hw12⟩ : ∃ w12, w12 = w10'.setCell ⟨N5, 3, none⟩ (.slice a10 (zs.length + 1) c10) := ⟨_, rfl⟩
      have HP12 := hid (show Rz wc w12 N5 false ⟨false, a9, c9, ks ++ [N.pkey c], ⟨va, vc, hs2⟩, a10, c10, zs ++ [(N.pkid c : Int)]⟩ by rw [hw12]; exact HPc10.out)
      have HNd2 := hid (show (⟨false, ks ++ [N.pkey c], hs2.map (·.bs), zs ++ [(N.pkid c : Int)]⟩ : N.Nd) = N.pnode false (cl.take (k + 1)) by
        rw [HCk.out, pnode_snoc, ← HI.out.2.1]
        have e2 : hs2.map (·.bs) = [] := congrArg N.Nd.vals HI.out.2.1
        have e3 : hs2 = [] := by simpa using e2
        simp [NM.nd, Pl.bs, e3])
      have HR12 := hid (show IsS w12 p (N.pst2 false c) by rw [hw12]; exact HRc10.out)
      rw [← hw12]
      clear hw12
      obtain ⟨er, her⟩ : ∃ er, er = M.endE (N.pst2 false c) := ⟨_, rfl⟩
      have HEr := hid her
      have HEn := hid (rend_any HR12.out)
      rw [← her] at HEn
      clear her
      by_cases h0 : er = 0
      · subst h0
        go_wp2_with (go_at_call 54; refine HEn.out.mono ?_; rintro e w13 ⟨rfl, hw⟩; rw [hw]; clear hw)
        go_roundw
        case rel =>
          refine ⟨k + 1, _, _, _, _, _, _, _, _, _, by omega, by go_num, HP12.out, HNd2.out, fun c' hc' => ?_⟩
          rw [HCk.out] at hc'
          rcases List.mem_append.1 hc' with hc' | hc'
          · exact HI.out.2.2 c' hc'
          · rw [List.mem_singleton.1 hc']; unfold N.pbad; rw [← HEr.out]; rfl
        case measure => simp [intOf]; omega
      · have h0z : ((er : Int) != 0) = true := by simpa using h0
        have HBad := hid (show N.pbad false c = true by unfold N.pbad; rw [← HEr.out]; simpa using h0)
        have HB12 := hid (show w12.heap[N1]? = some RZ by
          rw [(HP12.out.touch).block N1 (Array.getElem?_eq_some_iff.1 HB1c.out).1 HN15.out]; exact HB1c.out)
        clear h0
        go_wp2_with (first
          | (go_at_call 54; refine HEn.out.mono ?_; rintro e w13 ⟨rfl, hw⟩; rw [hw]; clear hw)
          | (refine wpList_store_row rfl 26 _ _ rfl N1 #[.bool false, .slice .none 0 0, .slice .none 0 0, .slice .none 0 0] rfl rfl 26 _ HB12.out (infoR4 _ _ _ _) rfl (one4 _ _ _ _ _ _ _ _ _ _) ?_))
        refine bodyPost_ret (results_r2 rfl _ _ N1 _ rfl (setRow_heap w12 N1 _ _ 26 _ HB12.out) rfl) rfl ?_
        rw [HNo.out (List.any_eq_true.2 ⟨c, HMem.out, HBad.out⟩)]
        exact rptnode_end (z := NM.none) rfl rfl (NOwn.none _ _) (HAc.out.then HP12.out.touch (fun j hj e => by have := HN5.out; omega)) HB12.out HL.out _
    · obtain rfl : k = cn := by omega
      have hlz : ¬ (k : Int) < (k : Int) := by omega
      have htk : cl.take k = cl := by rw [HCn.out, List.take_length]
      have HNd3 := hid (show (⟨false, ks, hs2.map (·.bs), zs⟩ : N.Nd) = N.pnode false cl by have q := HI.out.2.1; rw [htk] at q; exact q)
      have HE := hid (HYes.out (by
        rw [List.any_eq_false]
        intro c hc
        have q := HI.out.2.2 c (by rw [htk]; exact hc)
        rw [q]; decide))
      have HB1r := hid (show wr.heap[N1]? = some RZ by rw [(HI.out.1.touch).block N1 (Array.getElem?_eq_some_iff.1 HB1c.out).1 HN15.out]; exact HB1c.out)
      have HAr := hid (HAc.out.then HI.out.1.touch (fun j hj e => by have := HN5.out; omega))
      obtain ⟨rt, hrt⟩ : ∃ r, r = N.right (N.pnode false cl) := ⟨_, rfl⟩
      have HRt := hid (show Calls Try.prog 16 #[.agg #[.bool false, .slice ka ks.length kc, .slice va hs2.length vc, .slice ia zs.length ic]] wr (Adding (.bool rt) wr) by
        have e : NM.nd ⟨false, ka, kc, ks, ⟨va, vc, hs2⟩, ia, ic, zs⟩ = N.pnode false cl := HNd3.out
        have q := rright_any ⟨false, ka, kc, ks, ⟨va, vc, hs2⟩, ia, ic, zs⟩ wr HI.out.1.own.nq (N.Bd.ns (m := 1000) (by rw [e]; exact pnode_bd false cl (by rw [← HCn.out]; omega)) (by decide))
        rw [e, ← hrt] at q
        exact q)
      have HBp := hid (show wr.heap[N4]? = some (.cells #[.int .i64 no, .int .u8 6, .slice ca k cc] 84 (0, 0)) by rw [(HI.out.1.touch).block N4 (Array.getElem?_eq_some_iff.1 HB4c.out).1 HN45.out]; exact HB4c.out)
      obtain ⟨_, _, p2⟩ := pbox HBp.out
      cases rt with
      | false =>
        have HE2 := hid (show N.parse bs = (N.nil, 22) by rw [HE.out]; unfold N.told; rw [if_neg (by rw [← hrt]; decide)])
        clear htk hrt
        go_wp2_with (first
          | (refine wpList_load_row rfl 26 _ rfl N5 rfl 26 _ _ _ HI.out.1.box Try.underlying26 rfl (infoR4 _ _ _ _) ?_)
          | (go_at_call 16; refine HRt.out.mono ?_; rintro e w5 ⟨rfl, hA5⟩; have H5 := hid hA5; have HB5r := hid (box_adds HB1r.out hA5); clear hA5)
          | (refine wpList_store_row rfl 26 _ _ rfl N1 #[.bool false, .slice .none 0 0, .slice .none 0 0, .slice .none 0 0] rfl rfl 26 _ HB5r.out (infoR4 _ _ _ _) rfl (one4 _ _ _ _ _ _ _ _ _ _) ?_))
        refine bodyPost_ret (results_r2 rfl _ _ N1 _ rfl (setRow_heap w5 N1 _ _ 26 _ HB5r.out) rfl) rfl ?_
        rw [HE2.out]
        exact rptnode_end (z := NM.none) rfl rfl (NOwn.none _ _) (HAr.out.trans H5.out) HB5r.out HL.out _
      | true =>
        have HE2 := hid (show N.parse bs = (N.pnode false cl, 0) by rw [HE.out]; unfold N.told; rw [if_pos hrt.symm])
        clear htk hrt
        go_wp2_with (first
          | (refine wpList_load_row rfl 26 _ rfl N5 rfl 26 _ _ _ (box_adds HI.out.1.box H5.out) Try.underlying26 rfl (infoR4 _ _ _ _) ?_)
          | (refine wpList_load_row rfl 26 _ rfl N5 rfl 26 _ _ _ HI.out.1.box Try.underlying26 rfl (infoR4 _ _ _ _) ?_)
          | (go_at_call 16; refine HRt.out.mono ?_; rintro e w5 ⟨rfl, hA5⟩; have H5 := hid hA5; have HB5r := hid (box_adds HB1r.out hA5); clear hA5)
          | (refine wpList_store_row rfl 26 _ _ rfl N1 #[.bool false, .slice ka ks.length kc, .slice va hs2.length vc, .slice ia zs.length ic] rfl rfl 26 _ HB5r.out (infoR4 _ _ _ _) rfl (one4 _ _ _ _ _ _ _ _ _ _) ?_))
        refine bodyPost_ret (results_r2 rfl _ _ N1 _ rfl (setRow_heap w5 N1 _ _ 26 _ HB5r.out) rfl) rfl ?_
        rw [HE2.out]
        exact rptnode_end (z := ⟨false, ka, kc, ks, ⟨va, vc, hs2⟩, ia, ic, zs⟩) (show NM.nd ⟨false, ka, kc, ks, ⟨va, vc, hs2⟩, ia, ic, zs⟩ = (N.pnode false cl, 0).1 from HNd3.out) rfl ((HI.out.1.own.adds H5.out).lower HAc.out.size) (HAr.out.trans H5.out) HB5r.out HL.out _
set_option maxRecDepth 100000 in
set_option maxHeartbeats 4000000 in
theorem rparse14_other (a : Option Addr) (bs : List UInt8) (n cap : Nat) (w : World) (hn : bs.length = n) (hc : n ≤ cap) (hA : At w a bs) (h5 : M.kindP bs ≠ 5) (h6 : M.kindP bs ≠ 6) : Calls Try.prog 23 #[.slice a n cap] w (PTnode w (N.parse bs)) := by
  have HE := hid (show N.parse bs = (N.nil, 22) by unfold N.parse; rw [if_pos ⟨h5, h6⟩])
  obtain ⟨N1, hN1⟩ : ∃ N1, N1 = w.heap.size := ⟨_, rfl⟩
  obtain ⟨w1, hw1⟩ : ∃ w1, w1 = w.alloc RZ := ⟨_, rfl⟩
  have HA1 := hid (show Adds w w1 by rw [hw1]; exact (Touch.refl _ w).alloc _)
  have HB1 := hid (show w1.heap[N1]? = some RZ by rw [hw1, hN1]; exact heap_alloc_new w _)
  have HL := hid (show w.heap.size ≤ N1 by omega)
  obtain ⟨kz, hkz⟩ : ∃ kz, kz = (M.kindP bs).toNat := ⟨_, rfl⟩
  obtain ⟨nz, hnz⟩ : ∃ nz, nz = M.noP bs := ⟨_, rfl⟩
  obtain ⟨ok, hok⟩ : ∃ ok, ok = (M.readP bs).isSome := ⟨_, rfl⟩
  have HP := hid (show Calls Try.prog 51 #[.slice a n cap] w1 (fun e w' => ∃ (va : Option Addr) (vn vc : Nat), e = .returned (.tuple #[.agg #[.int .i64 (nz : Int), .int .u8 (kz : Int), .slice va vn vc], .bool ok]) ∧ Hid (Adds w1 w')) by
    refine (rparse_any a bs n cap w1 hn hc (hA.adds HA1.out)).mono ?_
    rintro e w' ⟨va, vc, hs, rfl, H⟩
    exact ⟨va, hs.length, vc, by rw [hkz, hnz, hok], H.out.2.2.1⟩)
  have e5 : ((kz : Int) != 5) = true := by
    have : kz ≠ 5 := fun e => h5 (UInt8.toNat_inj.1 (by rw [← hkz, e]; rfl))
    simp; omega
  have e6 : ((kz : Int) != 6) = true := by
    have : kz ≠ 6 := fun e => h6 (UInt8.toNat_inj.1 (by rw [← hkz, e]; rfl))
    simp; omega
  clear hn hc hA h5 h6 hkz hnz hok
  go_enter Try.func23, Try.ntmps23
  go_upto_region 1 with fail
  rw [← hw1, ← hN1]
  clear hw1 hN1
  go_upto_region 2 with (first
    | (go_at_call 51; refine HP.out.mono ?_; rintro e w2 ⟨ca, cn, cc, rfl, Hc2⟩)
    | (refine wpList_store_row rfl 84 _ _ rfl w2.heap.size #[.int .i64 (nz : Int), .int .u8 (kz : Int), .slice ca cn cc] rfl rfl 84 _ (heap_alloc_new w2 PgZ) (infoPg3 _ _ _) rfl (one3p _ _ _ _ _) ?_))
  clear HP
  obtain ⟨N4, hN4⟩ : ∃ N4, N4 = w2.heap.size := ⟨_, rfl⟩
  obtain ⟨w3, hw3⟩ : ∃ w3, w3 = (w2.alloc PgZ).setRow w2.heap.size #[.int .i64 (nz : Int), .int .u8 (kz : Int), .slice ca cn cc] := ⟨_, rfl⟩
  have HB4 := hid (show w3.heap[N4]? = some (.cells #[.int .i64 (nz : Int), .int .u8 (kz : Int), .slice ca cn cc] 84 (0, 0)) by rw [hw3, hN4]; exact setRow_heap (w2.alloc PgZ) w2.heap.size _ _ 84 _ (heap_alloc_new w2 PgZ))
  have HA23 := hid (show Adds w2 w3 by rw [hw3]; exact ((Touch.refl (fun _ => False) w2).alloc PgZ).then (touch_row (w2.alloc PgZ) w2.heap.size _) (fun j hj e => by omega))
  have HB3 := hid (box_adds HB1.out (Hc2.out.trans HA23.out))
  rw [← hw3, ← hN4]
  clear hw3 hN4
  obtain ⟨_, p1, _⟩ := pbox HB4.out
  cases ok with
  | false =>
    go_wp2_with (refine wpList_store_row rfl 26 _ _ rfl N1 #[.bool false, .slice .none 0 0, .slice .none 0 0, .slice .none 0 0] rfl rfl 26 _ HB3.out (infoR4 _ _ _ _) rfl (one4 _ _ _ _ _ _ _ _ _ _) ?_)
    refine bodyPost_ret (results_r2 rfl _ _ N1 _ rfl (setRow_heap w3 N1 _ _ 26 _ HB3.out) rfl) rfl ?_
    rw [HE.out]
    exact rptnode_end (z := NM.none) rfl rfl (NOwn.none _ _) (HA1.out.trans (Hc2.out.trans HA23.out)) HB3.out HL.out _
  | true =>
    go_wp2_with (refine wpList_store_row rfl 26 _ _ rfl N1 #[.bool false, .slice .none 0 0, .slice .none 0 0, .slice .none 0 0] rfl rfl 26 _ HB3.out (infoR4 _ _ _ _) rfl (one4 _ _ _ _ _ _ _ _ _ _) ?_)
    refine bodyPost_ret (results_r2 rfl _ _ N1 _ rfl (setRow_heap w3 N1 _ _ 26 _ HB3.out) rfl) rfl ?_
    rw [HE.out]
    exact rptnode_end (z := NM.none) rfl rfl (NOwn.none _ _) (HA1.out.trans (Hc2.out.trans HA23.out)) HB3.out HL.out _
theorem rparse14_any (a : Option Addr) (bs : List UInt8) (n cap : Nat) (w : World) (hn : bs.length = n) (hc : n ≤ cap) (hA : At w a bs) : Calls Try.prog 23 #[.slice a n cap] w (PTnode w (N.parse bs)) := by
  by_cases h5 : M.kindP bs = 5
  · exact rparse14_leaf a bs n cap w hn hc hA h5
  · by_cases h6 : M.kindP bs = 6
    · exact rparse14_inner a bs n cap w hn hc hA h6
    · exact rparse14_other a bs n cap w hn hc hA h5 h6
end Go.Proofs.Ytplppnngmlljnaa

/- A node's memory is changed: its places stay. -/
namespace Go.Proofs.Ytplppnngmlljnaa
open Go.RowKit

theorem set_typed {w : World} {g k b : Nat} {v : Value} {t : TypeId} (hb : ∃ cs fr, w.heap[b]? = some (Obj.cells cs t fr)) : ∃ cs fr, (w.setCell ⟨g, k, none⟩ v).heap[b]? = some (Obj.cells cs t fr) := by
  obtain ⟨cs, fr, hb⟩ := hb
  by_cases e : b = g
  · subst e
    rw [setCell_eq_setRow w b k cs t fr v hb]
    exact ⟨_, _, setRow_heap w b cs _ t fr hb⟩
  · rw [heap_setCell_other w ⟨g, k, none⟩ b v e]
    exact ⟨cs, fr, hb⟩
theorem PT.byte {w : World} {B : Nat} {p : Part} (h : PT w B p) (g k : Nat) (d : UInt8) : ∃ bs', bs'.length = p.bs.length ∧ PT (w.setCell ⟨g, k, none⟩ (B8 d)) B ⟨p.a, bs', p.cap⟩ := by
  by_cases hx : ∃ j0 o, j0 < p.bs.length ∧ p.a = some ⟨g, o, none⟩ ∧ o + j0 = k
  · obtain ⟨j0, o, hj0, ea, ek⟩ := hx
    refine ⟨p.bs.set j0 d, by rw [List.length_set], ⟨⟨fun j u hj => ?_, h.q.non⟩, fun j hj b' o' e => ?_⟩⟩
    · have hlt : j < p.bs.length := by
        have := (List.getElem?_eq_some_iff.1 hj).1
        simpa [S] using this
      obtain ⟨b1, o1, e1, hq, hc⟩ := h.q.at_ j (B8 (p.bs[j]'hlt)) (by rw [S_get, List.getElem?_eq_getElem hlt]; rfl)
      rw [ea] at e1
      injection e1 with e2
      injection e2 with e3 e4 _
      subst e3 e4
      refine ⟨g, o, ea, ⟨hq.1, set_typed hq.2⟩, ?_⟩
      by_cases ej : j = j0
      · subst ej
        rw [S_get, List.getElem?_set_self hlt] at hj
        obtain rfl : B8 d = u := Option.some.inj hj
        subst ek
        exact World.cell?_setCell_same w _ _ hc
      · rw [S_get, List.getElem?_set_ne (fun c => ej c.symm), ← S_get] at hj
        rw [S_get, List.getElem?_eq_getElem hlt] at hj
        obtain rfl : B8 (p.bs[j]'hlt) = u := Option.some.inj hj
        rw [World.cell?_setCell_other w _ _ _ (fun c => by injection c with _ c2 _; omega)]
        exact hc
    · rw [World.frozen?_setCell]
      exact h.fz j (by rw [List.length_set] at hj; exact hj) b' o' e
  · refine ⟨p.bs, rfl, ⟨⟨fun j u hj => ?_, h.q.non⟩, fun j hj b' o' e => ?_⟩⟩
    · obtain ⟨b1, o1, e1, hq, hc⟩ := h.q.at_ j u hj
      have hlt : j < p.bs.length := by
        have := (List.getElem?_eq_some_iff.1 hj).1
        simpa [S] using this
      refine ⟨b1, o1, e1, ⟨hq.1, set_typed hq.2⟩, ?_⟩
      rw [World.cell?_setCell_other w _ _ _ (fun c => hx (by injection c with c1 c2 _; subst c1; exact ⟨j, o1, hlt, e1, c2.symm⟩))]
      exact hc
    · rw [World.frozen?_setCell]
      exact h.fz j hj b' o' e
theorem parts_byte {w : World} {B : Nat} (g k : Nat) (d : UInt8) : ∀ l : List Part, (∀ p ∈ l, PT w B p) → ∃ l' : List Part, l'.map PV = l.map PV ∧ ∀ p ∈ l', PT (w.setCell ⟨g, k, none⟩ (B8 d)) B p
  | [], _ => ⟨[], rfl, fun p hp => by cases hp⟩
  | p :: l, h => by
    obtain ⟨bs', e, hp⟩ := (h p (List.mem_cons_self ..)).byte g k d
    obtain ⟨l', e2, hl⟩ := parts_byte g k d l (fun q hq => h q (List.mem_cons_of_mem _ hq))
    refine ⟨⟨p.a, bs', p.cap⟩ :: l', ?_, fun q hq => ?_⟩
    · rw [List.map_cons, List.map_cons, e2]
      show Value.slice p.a bs'.length p.cap :: _ = Value.slice p.a p.bs.length p.cap :: _
      rw [e]
    · rcases List.mem_cons.1 hq with rfl | hq
      · exact hp
      · exact hl q hq
/-- What lies there while a node is spoilt. -/
def Sp (w wx : World) (B N0 : Nat) (z : NM) : Prop := ∃ (ks' : List (List UInt8)) (hs' : List Part) (zs' : List Int), ks'.length = z.ks.length ∧ hs'.map PV = z.v.l.map PV ∧ zs'.length = z.is.length ∧ NOwn wx B ⟨z.leaf, z.ka, z.kc, ks', ⟨z.v.a, z.v.cap, hs'⟩, z.ia, z.ic, zs'⟩ ∧ Touch (fun j => B ≤ j) w wx ∧ wx.heap[N0]? = some (.cells #[.bool z.leaf, z.kv, z.vv, z.iv] 28 (0, 0))
theorem map_len {l l' : List Part} (h : l'.map PV = l.map PV) : l'.length = l.length := by
  have := congrArg List.length h
  rwa [List.length_map, List.length_map] at this
theorem Sp.key {w wx : World} {B N0 : Nat} {z : NM} (h : Sp w wx B N0 z) {i : Nat} (hi : i < z.ks.length) : ∃ g, z.ka = some ⟨g, 0, none⟩ ∧ wx.frozen? ⟨g, i, none⟩ = false ∧ (wx.cell? ⟨g, i, none⟩).isSome = true ∧ Sp w (wx.setCell ⟨g, i, none⟩ (Str [122, 122])) B N0 z := by
  obtain ⟨ks', hs', zs', e1, e2, e3, ho, hT, hb⟩ := h
  obtain ⟨g, eg, hg, hrow, hfz, hsm⟩ := row_setc ho.keys (k := i) (show i < ks'.length by omega) (Str [122, 122])
  have eg' : z.ka = some ⟨g, 0, none⟩ := eg
  have hown : (Value.slice z.ka ks'.length z.kc).ownBlock = some g := by rw [eg']; rfl
  have hS : Touch (fun j => j = g) wx (wx.setCell ⟨g, i, none⟩ (Str [122, 122])) := Touch.setCell (T := fun j => j = g) (Touch.refl _ wx) (p := ⟨g, i, none⟩) (fun _ => rfl) _
  have hne : ∀ {B' : Nat} {e : TypeId} {u : Value} {m : Nat} {xs : List Value}, wx.ownsRow B' e 1 u m xs → 9 ≠ e → ∀ j, u.ownBlock = some j → ¬ j = g := fun hu he j hj c => row_apt ho.keys hu he (j := g) hown (by rw [hj, c])
  refine ⟨g, eg', hfz, hsm, ks'.set i [122, 122], hs', zs', by rw [List.length_set]; exact e1, e2, e3, ⟨?_, row_touch ho.vals hS (hne ho.vals (by decide)), fun p hp => (ho.each p hp).touch hS (fun k hk cs' fr e => ?_), row_touch ho.kids hS (hne ho.kids (by decide))⟩, hT.then hS (fun j hj e => by omega), ?_⟩
  · show World.ownsRow _ B 9 1 (.slice z.ka (ks'.set i [122, 122]).length z.kc) (ks'.set i [122, 122]).length (Ss (ks'.set i [122, 122]))
    rw [List.length_set, show Ss (ks'.set i [122, 122]) = (Ss ks').set i (Str [122, 122]) by rw [Ss, Ss, List.map_set]]
    exact hrow
  · subst hk
    obtain ⟨cur, q⟩ := row_type ho.keys hown
    rw [q] at e
    injection e with q1
    injection q1 with _ q2 _
    exact absurd q2 (by decide)
  · rw [hS.block N0 (Array.getElem?_eq_some_iff.1 hb).1 (fun c => row_ne ho.keys hb (by decide) (j := g) hown c.symm)]
    exact hb
theorem Sp.kid {w wx : World} {B N0 : Nat} {z : NM} (h : Sp w wx B N0 z) {i : Nat} (hi : i < z.is.length) : ∃ (g : Nat) (v : Int), z.ia = some ⟨g, 0, none⟩ ∧ wx.frozen? ⟨g, i, none⟩ = false ∧ wx.cell? ⟨g, i, none⟩ = some (.int .i64 v) ∧ ∀ v' : Int, Sp w (wx.setCell ⟨g, i, none⟩ (.int .i64 v')) B N0 z := by
  obtain ⟨ks', hs', zs', e1, e2, e3, ho, hT, hb⟩ := h
  obtain ⟨g, eg, hg, _, hfz, hsm⟩ := row_setc ho.kids (k := i) (show i < zs'.length by omega) (.int .i64 0)
  have eg' : z.ia = some ⟨g, 0, none⟩ := eg
  obtain ⟨b, o, ea, hc⟩ := ho.nq.kid (i := i) (show i < zs'.length by omega)
  have ea' : z.ia = some ⟨b, o, none⟩ := ea
  rw [eg'] at ea'
  injection ea' with q1
  injection q1 with q2 q3 _
  subst q2 q3
  rw [Nat.zero_add] at hc
  have hown : (Value.slice z.ia zs'.length z.ic).ownBlock = some g := by rw [eg']; rfl
  refine ⟨g, _, eg', hfz, hc, fun v' => ?_⟩
  obtain ⟨g2, eg2, hg2, hrow, _, _⟩ := row_setc ho.kids (k := i) (show i < zs'.length by omega) (.int .i64 v')
  have eg2' : z.ia = some ⟨g2, 0, none⟩ := eg2
  rw [eg'] at eg2'
  injection eg2' with q1
  injection q1 with q2 _ _
  subst q2
  have hS : Touch (fun j => j = g) wx (wx.setCell ⟨g, i, none⟩ (.int .i64 v')) := Touch.setCell (T := fun j => j = g) (Touch.refl _ wx) (p := ⟨g, i, none⟩) (fun _ => rfl) _
  have hne : ∀ {B' : Nat} {e : TypeId} {u : Value} {m : Nat} {xs : List Value}, wx.ownsRow B' e 1 u m xs → 3 ≠ e → ∀ j, u.ownBlock = some j → ¬ j = g := fun hu he j hj c => row_apt ho.kids hu he (j := g) hown (by rw [hj, c])
  refine ⟨ks', hs', zs'.set i v', e1, e2, by rw [List.length_set]; exact e3, ⟨row_touch ho.keys hS (hne ho.keys (by decide)), row_touch ho.vals hS (hne ho.vals (by decide)), fun p hp => (ho.each p hp).touch hS (fun k hk cs' fr e => ?_), ?_⟩, hT.then hS (fun j hj e => by omega), ?_⟩
  · subst hk
    obtain ⟨cur, q⟩ := row_type ho.kids hown
    rw [q] at e
    injection e with q1
    injection q1 with _ q2 _
    exact absurd q2 (by decide)
  · show World.ownsRow _ B 3 1 (.slice z.ia (zs'.set i v').length z.ic) (zs'.set i v').length (Is (zs'.set i v'))
    rw [List.length_set, show Is (zs'.set i v') = (Is zs').set i (.int .i64 v') by rw [Is, Is, List.map_set]]
    exact hrow
  · rw [hS.block N0 (Array.getElem?_eq_some_iff.1 hb).1 (fun c => row_ne ho.kids hb (by decide) (j := g) hown c.symm)]
    exact hb
theorem Sp.val {w wx : World} {B N0 : Nat} {z : NM} (h : Sp w wx B N0 z) {u : Nat} (hu : u < z.v.l.length) : ∃ b o, z.v.a = some ⟨b, o, none⟩ ∧ wx.cell? ⟨b, o + u, none⟩ = some (PV z.v.l[u]) := by
  obtain ⟨ks', hs', zs', e1, e2, e3, ho, hT, hb⟩ := h
  have hu2 : u < hs'.length := by rw [map_len e2]; exact hu
  obtain ⟨b, o, ea, hc⟩ := ho.nq.vals.cell (i := u) hu2
  refine ⟨b, o, ea, ?_⟩
  have q : (hs'.map PV)[u]? = (z.v.l.map PV)[u]? := by rw [e2]
  rw [List.getElem?_map, List.getElem?_eq_getElem hu2, List.getElem?_map, List.getElem?_eq_getElem hu] at q
  rw [hc]; exact q
theorem Sp.byte {w wx : World} {B N0 : Nat} {z : NM} (h : Sp w wx B N0 z) {u j : Nat} (hu : u < z.v.l.length) (hj : j < z.v.l[u].bs.length) : ∃ (b o : Nat) (c : UInt8), z.v.l[u].a = some ⟨b, o, none⟩ ∧ wx.frozen? ⟨b, o + j, none⟩ = false ∧ wx.cell? ⟨b, o + j, none⟩ = some (.int .u8 (c.toNat : Int)) ∧ ∀ d : UInt8, Sp w (wx.setCell ⟨b, o + j, none⟩ (.int .u8 (d.toNat : Int))) B N0 z := by
  obtain ⟨ks', hs', zs', e1, e2, e3, ho, hT, hb⟩ := h
  have hu2 : u < hs'.length := by rw [map_len e2]; exact hu
  have q : (hs'.map PV)[u]? = (z.v.l.map PV)[u]? := by rw [e2]
  rw [List.getElem?_map, List.getElem?_eq_getElem hu2, List.getElem?_map, List.getElem?_eq_getElem hu] at q
  have q' : Value.slice hs'[u].a hs'[u].bs.length hs'[u].cap = .slice z.v.l[u].a z.v.l[u].bs.length z.v.l[u].cap := Option.some.inj q
  injection q' with q1 q2 q3
  have hp := ho.each hs'[u] (List.getElem_mem hu2)
  have hj2 : j < hs'[u].bs.length := by rw [q2]; exact hj
  obtain ⟨b, o, ea, hq, hc⟩ := hp.q.at_ j (B8 (hs'[u].bs[j]'hj2)) (by rw [S_get, List.getElem?_eq_getElem hj2]; rfl)
  have hfz := hp.fz j hj2 b o ea
  refine ⟨b, o, _, by rw [← q1]; exact ea, hfz, hc, fun d => ?_⟩
  obtain ⟨cs, fr, hbk⟩ := hq.2
  obtain ⟨l', el, hl⟩ := parts_byte (w := wx) b (o + j) d hs' ho.each
  have hS : Touch (fun k => k = b) wx (wx.setCell ⟨b, o + j, none⟩ (.int .u8 (d.toNat : Int))) := Touch.setCell (T := fun k => k = b) (Touch.refl _ wx) (p := ⟨b, o + j, none⟩) (fun _ => rfl) _
  have hne : ∀ {B' : Nat} {e : TypeId} {v : Value} {m : Nat} {xs : List Value}, wx.ownsRow B' e 1 v m xs → e ≠ 5 → ∀ k, v.ownBlock = some k → ¬ k = b := fun hu he k hk c => by
    subst c
    obtain ⟨cur, qq⟩ := row_type hu hk
    rw [hbk] at qq
    injection qq with q1
    injection q1 with _ q2 _
    exact he q2.symm
  have hlen : l'.length = hs'.length := map_len el
  refine ⟨ks', l', zs', e1, el.trans e2, e3, ⟨row_touch ho.keys hS (hne ho.keys (by decide)), ?_, hl, row_touch ho.kids hS (hne ho.kids (by decide))⟩, hT.then hS (fun k hk e => by have := hq.1; omega), ?_⟩
  · have r := row_touch ho.vals hS (hne ho.vals (by decide))
    show World.ownsRow _ B 30 1 (.slice z.v.a l'.length z.v.cap) l'.length (l'.map PV)
    rw [hlen, el]; exact r
  · rw [hS.block N0 (Array.getElem?_eq_some_iff.1 hb).1 (fun c => by
      subst c
      rw [hbk] at hb
      injection hb with q1
      injection q1 with _ q2 _
      exact absurd q2 (by decide))]
    exact hb
theorem byte_up (c : UInt8) : IntKind.u8.wrap ((c.toNat : Int) + 1) = ((c + 1).toNat : Int) := by
  rw [IntKind.wrap_u8, UInt8.toNat_add]
  have := c.toNat_lt
  show ((c.toNat : Int) + 1) % 256 = (((c.toNat + 1) % 256 : Nat) : Int)
  omega
/-- What spoil leaves: blocks from a mark on have turned. -/
def PSpoil (w : World) (B : Nat) (e : Ending) (w' : World) : Prop := e = .returned (.tuple #[]) ∧ Touch (fun j => B ≤ j) w w'
set_option maxRecDepth 100000 in
set_option maxHeartbeats 8000000 in
theorem spoil_any (z : NM) (w : World) (B : Nat) (h : NOwn w B z) (hs : NS z) : Calls Try.prog 24 #[z.val] w (PSpoil w B) := by
  obtain ⟨l, ka, kc, ks, g, ia, ic, zs⟩ := z
  obtain ⟨kn, hkn⟩ : ∃ k, k = ks.length := ⟨_, rfl⟩
  obtain ⟨vn, hvn⟩ : ∃ k, k = g.l.length := ⟨_, rfl⟩
  obtain ⟨zn, hzn⟩ : ∃ k, k = zs.length := ⟨_, rfl⟩
  obtain ⟨va, hva⟩ : ∃ k, k = g.a := ⟨_, rfl⟩
  obtain ⟨vc, hvc⟩ : ∃ k, k = g.cap := ⟨_, rfl⟩
  have hk9 : kn ≤ 1000 := by rw [hkn]; exact hs.k
  have hv9 : vn ≤ 1000 := by rw [hvn]; exact hs.v
  have hz9 : zn ≤ 1000 := by rw [hzn]; exact hs.i
  have HVl := hid hs.vl
  obtain ⟨N0, hN0⟩ : ∃ N0, N0 = w.heap.size := ⟨_, rfl⟩
  obtain ⟨w1, hw1⟩ : ∃ w1, w1 = w.alloc (.cells #[.bool l, .slice ka kn kc, .slice va vn vc, .slice ia zn ic] 28) := ⟨_, rfl⟩
  have HS0 := hid (show Sp w w1 B N0 ⟨l, ka, kc, ks, g, ia, ic, zs⟩ by
    refine ⟨ks, g.l, zs, rfl, rfl, rfl, ?_, ?_, ?_⟩
    · rw [hw1]; exact h.adds ((Touch.refl _ w).alloc _)
    · rw [hw1]; exact ((Touch.refl _ w).alloc _)
    · rw [hw1, hN0, hkn, hvn, hzn, hva, hvc]; exact heap_alloc_new w _)
  have HEq := hid (show kn = ks.length ∧ vn = g.l.length ∧ zn = zs.length ∧ va = g.a ∧ vc = g.cap from ⟨hkn, hvn, hzn, hva, hvc⟩)
  have HBox := hid (fun (wx : World) (hS : Sp w wx B N0 ⟨l, ka, kc, ks, g, ia, ic, zs⟩) => show wx.heap[N0]? = some (.cells #[.bool l, .slice ka kn kc, .slice va vn vc, .slice ia zn ic] 28 (0, 0)) by
    obtain ⟨_, _, _, _, _, _, _, _, hb⟩ := hS
    rw [hkn, hvn, hzn, hva, hvc]; exact hb)
  show Calls Try.prog 24 #[.agg #[.bool l, .slice ka ks.length kc, .slice g.a g.l.length g.cap, .slice ia zs.length ic]] w (PSpoil w B)
  rw [← hkn, ← hvn, ← hzn, ← hva, ← hvc]
  clear h hs hkn hvn hzn hva hvc
  go_enter Try.func24, Try.ntmps24
  go_upto_region 1 with fail
  rw [← hw1, ← hN0]
  clear hw1 hN0
  obtain ⟨b0, b1, b2, b3⟩ := box_cells (HBox.out w1 HS0.out)
  go_upto_region 2 with fail
  clear b0 b1 b2 b3
  go_loopw [10] (fun t wx => ∃ i : Nat, i ≤ kn ∧ t = .int .i64 (i : Int) ∧ Hid (Sp w wx B N0 ⟨l, ka, kc, ks, g, ia, ic, zs⟩)) (fun t _ => kn - (intOf t).toNat)
  case atStart => exact ⟨0, Nat.zero_le _, rfl, HS0.out⟩
  case round =>
    obtain ⟨i, hi, rfl, HS⟩ := hrel
    obtain ⟨b0, b1, b2, b3⟩ := box_cells (HBox.out _ HS.out)
    by_cases hlt : i < kn
    · have hlz : (i : Int) < (kn : Int) := by omega
      obtain ⟨q, eq, hfz, hsm, hnx⟩ := HS.out.key (i := i) (show i < ks.length by rw [← HEq.out.1]; exact hlt)
      obtain ⟨u9, hu9⟩ := Option.isSome_iff_exists.1 hsm
      have eq' : ka = some ⟨q, 0, none⟩ := eq
      have HN := hid hnx
      clear hsm eq hnx
      subst eq'
      go_wp2_with fail
      go_roundw
      case rel => exact ⟨i + 1, by omega, by go_num, HN.out⟩
      case measure => simp [intOf]; omega
    · obtain rfl : i = kn := by omega
      have hlz : ¬ (i : Int) < (i : Int) := by omega
      go_upto_region 7 with fail
      clear b0 b1 b2 b3
      go_loopw [21] (fun t wx => ∃ u : Nat, u ≤ vn ∧ t = .int .i64 (u : Int) ∧ Hid (Sp w wx B N0 ⟨l, ka, kc, ks, g, ia, ic, zs⟩)) (fun t _ => vn - (intOf t).toNat)
      case atStart => exact ⟨0, Nat.zero_le _, rfl, HS.out⟩
      case round =>
        obtain ⟨u, hu, rfl, HV⟩ := hrel
        by_cases hult : u < vn
        · have hulz : (u : Int) < (vn : Int) := by omega
          have hu1 : u < g.l.length := by rw [← HEq.out.2.1]; exact hult
          have HU1 := hid hu1
          obtain ⟨b, o, ea, hc⟩ := HV.out.val (u := u) hu1
          obtain ⟨m, hm⟩ : ∃ m, m = g.l[u].bs.length := ⟨_, rfl⟩
          obtain ⟨pa, hpa⟩ : ∃ m, m = g.l[u].a := ⟨_, rfl⟩
          obtain ⟨pc, hpc⟩ : ∃ m, m = g.l[u].cap := ⟨_, rfl⟩
          have hm9 : m ≤ 1000 := by rw [hm]; exact HVl.out _ (List.getElem_mem hu1)
          rw [show PV ((⟨l, ka, kc, ks, g, ia, ic, zs⟩ : NM).v.l[u]'hu1) = .slice pa m pc by rw [hm, hpa, hpc]; rfl] at hc
          have HM := hid hm
          have HPa := hid hpa
          have ea' : va = some ⟨b, o, none⟩ := by rw [HEq.out.2.2.2.1]; exact ea
          clear hm hpa hpc ea hu1
          subst ea'
          go_upto_region 10 with fail
          clear hc
          go_loopw [27] (fun t wx => ∃ j : Nat, j ≤ m ∧ t = .int .i64 (j : Int) ∧ Hid (Sp w wx B N0 ⟨l, ka, kc, ks, g, ia, ic, zs⟩)) (fun t _ => m - (intOf t).toNat)
          case atStart => exact ⟨0, Nat.zero_le _, rfl, HV.out⟩
          case round =>
            obtain ⟨j, hj, rfl, HJ⟩ := hrel
            by_cases hjlt : j < m
            · have hjlz : (j : Int) < (m : Int) := by omega
              obtain ⟨pb, po, c, epa, hfz, hcc, hnx⟩ := HJ.out.byte (u := u) (j := j) HU1.out (by show j < g.l[u].bs.length; rw [← HM.out]; exact hjlt)
              have epa' : pa = some ⟨pb, po, none⟩ := by rw [HPa.out]; exact epa
              have HN := hid (hnx (c + 1))
              have hup := byte_up c
              clear epa hnx
              subst epa'
              go_wp2_with fail
              go_roundw
              case rel => exact ⟨j + 1, by omega, by go_num, HN.out⟩
              case measure => simp [intOf]; omega
            · obtain rfl : j = m := by omega
              have hjlz : ¬ (j : Int) < (j : Int) := by omega
              go_wp2_with fail
              go_roundw
              case rel => exact ⟨u + 1, by omega, by go_num, HJ.out⟩
              case measure => simp [intOf]; omega
        · obtain rfl : u = vn := by omega
          have hulz : ¬ (u : Int) < (u : Int) := by omega
          obtain ⟨b0, b1, b2, b3⟩ := box_cells (HBox.out _ HV.out)
          go_upto_region 16 with fail
          clear b0 b1 b2 b3
          go_loopw [41] (fun t wx => ∃ j : Nat, j ≤ zn ∧ t = .int .i64 (j : Int) ∧ Hid (Sp w wx B N0 ⟨l, ka, kc, ks, g, ia, ic, zs⟩)) (fun t _ => zn - (intOf t).toNat)
          case atStart => exact ⟨0, Nat.zero_le _, rfl, HV.out⟩
          case round =>
            obtain ⟨j, hj, rfl, HJ⟩ := hrel
            obtain ⟨b0, b1, b2, b3⟩ := box_cells (HBox.out _ HJ.out)
            by_cases hjlt : j < zn
            · have hjlz : (j : Int) < (zn : Int) := by omega
              obtain ⟨q, v, eq, hfz, hcc, hnx⟩ := HJ.out.kid (i := j) (show j < zs.length by rw [← HEq.out.2.2.1]; exact hjlt)
              have eq' : ia = some ⟨q, 0, none⟩ := eq
              have HN := hid hnx
              clear eq hnx
              subst eq'
              go_wp2_with fail
              go_roundw
              case rel => exact ⟨j + 1, by omega, by go_num, HN.out _⟩
              case measure => simp [intOf]; omega
            · obtain rfl : j = zn := by omega
              have hjlz : ¬ (j : Int) < (j : Int) := by omega
              go_wp2_with fail
              refine bodyPost_ret (results_none rfl _ _ _) rfl ?_
              obtain ⟨_, _, _, _, _, _, _, hT, _⟩ := HJ.out
              exact ⟨rfl, hT⟩
end Go.Proofs.Ytplppnngmlljnaa

/- NodeParses. -/
namespace Go.Proofs.Ytplppnngmlljnaa
open Go.RowKit

theorem N.parse_bd (bs : List UInt8) : N.Bd 1000 (N.parse bs).1 := by
  unfold N.parse
  split
  · exact N.Bd.nil.mono (Nat.zero_le _)
  · split
    · exact N.Bd.nil.mono (Nat.zero_le _)
    · refine N.Bd.told (pnode_bd _ _ ?_)
      cases hR : M.readP bs with
      | none => rw [(M.none_all hR).2.2.1]; decide
      | some p => rw [(M.some_all hR).2.2.1]; exact (M.read_ok hR).1.count.1
/-- A told node of the reference's put into a block. -/
theorem rboxed {w w1 w7 w8 : World} {N6 : Nat} {l : Bool} {ka : Option Addr} {kc : Nat} {ks : List (List UInt8)} {g : Pl} {ia : Option Addr} {ic : Nat} {is : List Int} {n : N.Nd} (h : (⟨l, ka, kc, ks, g, ia, ic, is⟩ : NM).nd = n ∧ NOwn w7 w.heap.size ⟨l, ka, kc, ks, g, ia, ic, is⟩ ∧ Adds w1 w7) (hN : N6 = w7.heap.size) (hw : w8 = (w7.alloc RZ).setRow N6 #[.bool l, .slice ka ks.length kc, .slice g.a g.l.length g.cap, .slice ia is.length ic]) :
    NOwn w8 w.heap.size ⟨l, ka, kc, ks, g, ia, ic, is⟩ ∧ w8.heap[N6]? = some (.cells #[.bool l, .slice ka ks.length kc, .slice g.a g.l.length g.cap, .slice ia is.length ic] 26 (0, 0)) ∧ Adds w1 w8 := by
  have hA : Adds w7 w8 := by rw [hw, hN]; exact Touch.setRow (T := fun _ => False) ((Touch.refl _ _).alloc _) (fun c => absurd c (by omega)) _
  exact ⟨h.2.1.adds hA, by rw [hw, hN]; exact setRow_heap _ _ _ _ 26 _ (heap_alloc_new w7 RZ), h.2.2.trans hA⟩
theorem conv_n {w : World} {a : Option Addr} {bs : List UInt8} {n cap : Nat} (h : At w a bs) (hn : n = bs.length) : (convert 30 9 (.slice a n cap)).run Try.prog w = .ok (.string ⟨bs.toArray⟩) w := by subst hn; exact conv_at w a bs cap h
set_option maxRecDepth 100000 in
set_option maxHeartbeats 8000000 in
theorem parses14 (a : Option Addr) (bs : List UInt8) (n cap : Nat) (w : World) (hn : n = bs.length) (hc : n ≤ cap) (hA : At w a bs) (hnon : a = none → cap = 0) : Calls Try.prog 4 #[.slice a n cap] w (Adding (.bool true) w) := by
  have HW := hid (fun w' => works14 w')
  by_cases h400 : 400 < n
  · have h400z : (400 : Int) < (n : Int) := by omega
    have h400d : decide ((400 : Int) < (n : Int)) = true := decide_eq_true h400z
    go_enter Try.func4, Try.ntmps4
    go_wp2_with fail
    go_ret
    exact ⟨rfl, Touch.refl _ _⟩
  have h400z : ¬ (400 : Int) < (n : Int) := by omega
  have h400d : decide ((400 : Int) < (n : Int)) = false := decide_eq_false h400z
  have HN := hid hn
  have HAt := hid hA
  have HRef := hid (fun w' (hAd : Adds w w') => show Calls Try.prog 23 #[.slice a n cap] w' (PTnode w' (N.parse bs)) from rparse14_any a bs n cap w' hn.symm hc (hA.adds hAd))
  have HOwn := hid (fun (w' : World) (a' : Option Addr) (c' : Nat) (hc' : n ≤ c') (h : At w' a' bs) => show Calls Try.prog 22 #[.slice a' n c'] w' (PTnode w' (N.parse bs)) from nparse_any a' bs n c' w' hn.symm hc' h)
  have HCq := hid (show CQ w (fun _ => True) a (S bs) from fun j u hj => by
    rw [S_get] at hj
    obtain ⟨c, hcj, rfl⟩ := Option.map_eq_some_iff.1 hj
    obtain ⟨b, o, e, hcc⟩ := hA j c hcj
    exact ⟨b, o, e, trivial, hcc⟩)
  have HNon := hid hnon
  obtain ⟨n0, hn0⟩ : ∃ m, m = (N.parse bs).1 := ⟨_, rfl⟩
  obtain ⟨er, her⟩ : ∃ m, m = (N.parse bs).2 := ⟨_, rfl⟩
  have hpr : N.parse bs = (n0, er) := by rw [hn0, her]
  have HBd := hid (show N.Bd 1000 n0 by rw [hn0]; exact N.parse_bd bs)
  have HP := hid hpr
  clear hn hA hnon hn0 her hpr hc
  go_enter Try.func4, Try.ntmps4
  obtain ⟨i5, hi5, hz5, hs5, hb5⟩ := info5all
  obtain ⟨g0, hg0⟩ : ∃ g, g = w.heap.size := ⟨_, rfl⟩
  obtain ⟨w1, hw1⟩ : ∃ w1, w1 = w.alloc (.cells #[] 5) := ⟨_, rfl⟩
  have A1 := hid (show Adds w w1 by rw [hw1]; exact (Touch.refl _ w).alloc _)
  have G1 := hid (show w1.heap[g0]? = some (.cells #[] 5) by rw [hw1, hg0]; exact heap_alloc_new w _)
  have HInf := hid (And.intro hi5 (And.intro hz5 (And.intro hs5 hb5)))
  clear hi5 hz5 hs5 hb5
  have HG0 := hid (show w.heap.size ≤ g0 by omega)
  go_upto_region 3 with fail
  go_upto_region 4 with (refine wpList_plain rfl (fun K hK => ?_); rw [← hw1, ← hg0]; clear hw1 hg0; refine wp_append_lit 30 5 i5 (.int .u8 0) 1 Try.underlying30 HInf.out.1 HInf.out.2.1 HInf.out.2.2.1 HInf.out.2.2.2 rfl (.tmp 11) (.tmp 12) rfl w.heap.size g0 HG0.out G1.out rfl a n cap (S bs) rfl (by rw [HN.out]; exact List.length_map _) (HCq.out.adds A1.out) HNon.out (one_S bs) (by omega) (by decide) ?_; intro a2 c2 w2 r2 hA2; have R2 := hid r2; have A2 := hid (A1.out.trans hA2); clear r2 hA2; refine hK _ _ ?_)
  have HQ2 := hid (row_q R2.out)
  have HAt2 := hid (row_at R2.out)
  have HOwn2 := hid (show Calls Try.prog 22 #[.slice a2 n c2] w2 (PTnd w2 n0 (er : Int)) from PTnode.nd (HOwn.out w2 a2 c2 HQ2.out.1 HAt2.out) HP.out)
  have HRef2 := hid (fun w' (hAd : Adds w w') => show Calls Try.prog 23 #[.slice a n cap] w' (PTnd w' n0 (er : Int)) from PTnode.nd (HRef.out w' hAd) HP.out)
  clear HRef HOwn
  go_upto_region 5 with (first
    | (go_at_call 22; refine HOwn2.out.mono ?_; rintro e w4 ⟨l, ka, kc, ks, g, ia, ic, is, rfl, H4⟩)
    | (refine wpList_store_row rfl 28 _ _ rfl _ #[.bool l, .slice ka ks.length kc, .slice g.a g.l.length g.cap, .slice ia is.length ic] rfl rfl 28 _ (heap_alloc_new _ _) (info4 _ _ _ _) rfl (one4 _ _ _ _ _ _ _ _ _ _) ?_))
  clear HOwn2
  obtain ⟨N5, hN5⟩ : ∃ N5, N5 = w4.heap.size := ⟨_, rfl⟩
  rw [← hN5]
  obtain ⟨w5, hw5⟩ : ∃ w5, w5 = (w4.alloc NZ).setRow N5 #[.bool l, .slice ka ks.length kc, .slice g.a g.l.length g.cap, .slice ia is.length ic] := ⟨_, rfl⟩
  have HB := hid (boxed H4.out hN5 hw5)
  rw [← hw5]
  clear hw5 hN5
  have A5 := hid (A2.out.trans HB.out.2.2)
  have HRef5 := hid (HRef2.out w5 A5.out)
  go_upto_region 6 with (first
    | (go_at_call 23; refine HRef5.out.mono ?_; rintro e w6 ⟨l7, ka7, kc7, ks7, g7, ia7, ic7, is7, rfl, H6⟩)
    | (refine wpList_store_row rfl 26 _ _ rfl _ #[.bool l7, .slice ka7 ks7.length kc7, .slice g7.a g7.l.length g7.cap, .slice ia7 is7.length ic7] rfl rfl 26 _ (heap_alloc_new _ _) (infoR4 _ _ _ _) rfl (one4 _ _ _ _ _ _ _ _ _ _) ?_))
  clear HRef5 HRef2
  obtain ⟨N7, hN7⟩ : ∃ N7, N7 = w6.heap.size := ⟨_, rfl⟩
  rw [← hN7]
  obtain ⟨w7, hw7⟩ : ∃ w7, w7 = (w6.alloc RZ).setRow N7 #[.bool l7, .slice ka7 ks7.length kc7, .slice g7.a g7.l.length g7.cap, .slice ia7 is7.length ic7] := ⟨_, rfl⟩
  have HB7 := hid (rboxed H6.out hN7 hw7)
  rw [← hw7]
  clear hw7 hN7
  have Y7 := hid (box_adds HB.out.2.1 HB7.out.2.2)
  have A7 := hid (A5.out.trans HB7.out.2.2)
  have HS7 := hid (show Calls Try.prog 20 #[.agg #[.bool l, .slice ka ks.length kc, .slice g.a g.l.length g.cap, .slice ia is.length ic], .agg #[.bool l7, .slice ka7 ks7.length kc7, .slice g7.a g7.l.length g7.cap, .slice ia7 is7.length ic7]] w7 (Adding (.bool true) w7) by
    have q := same_any ⟨l, ka, kc, ks, g, ia, ic, is⟩ ⟨l7, ka7, kc7, ks7, g7, ia7, ic7, is7⟩ w7 (HB.out.1.adds HB7.out.2.2).nq HB7.out.1.nq (N.Bd.ns (m := 1000) (by rw [H4.out.1]; exact HBd.out) (by decide)) (N.Bd.ns (m := 1000) (by rw [H6.out.1]; exact HBd.out) (by decide))
    rw [H4.out.1, H6.out.1, N.same_refl] at q
    exact q)
  have hee : ((er : Int) != (er : Int)) = false := by simp
  go_upto_region 8 with (first
    | (refine wpList_load_row rfl 28 _ rfl N5 rfl 28 _ _ _ Y7.out Try.underlying28 rfl (info4 _ _ _ _) ?_)
    | (refine wpList_load_row rfl 26 _ rfl N7 rfl 26 _ _ _ HB7.out.2.1 Try.underlying26 rfl (infoR4 _ _ _ _) ?_)
    | (go_at_call 20; refine HS7.out.mono ?_; rintro e w8 ⟨rfl, hA8⟩; have A8 := hid hA8; clear hA8))
  clear HS7 hee
  have Y8 := hid (box_adds Y7.out A8.out)
  have O8 := hid ((HB.out.1.adds HB7.out.2.2).adds A8.out)
  have HSp := hid (show Calls Try.prog 24 #[.agg #[.bool l, .slice ka ks.length kc, .slice g.a g.l.length g.cap, .slice ia is.length ic]] w8 (PSpoil w8 w2.heap.size) from spoil_any ⟨l, ka, kc, ks, g, ia, ic, is⟩ w8 w2.heap.size O8.out (N.Bd.ns (m := 1000) (by rw [H4.out.1]; exact HBd.out) (by decide)))
  go_upto_region 9 with (first
    | (refine wpList_load_row rfl 28 _ rfl N5 rfl 28 _ _ _ Y8.out Try.underlying28 rfl (info4 _ _ _ _) ?_)
    | (go_at_call 24; refine HSp.out.mono ?_; rintro e w9 ⟨rfl, hT9⟩; have T9 := hid hT9; clear hT9))
  have A9 := hid (show Adds w w9 from (A7.out.trans A8.out).then T9.out (fun j hj e => by have := A2.out.size; omega))
  have hc1 : (convert 30 9 (.slice a2 n c2)).run Try.prog w9 = .ok (.string ⟨bs.toArray⟩) w9 := conv_n (by
    have r := row_touch R2.out (HB.out.2.2.trans (HB7.out.2.2.trans A8.out)) (fun _ _ => id)
    exact row_at (row_touch r T9.out (fun j hj e => by have := row_lt R2.out hj; omega))) HN.out
  have hc2 : (convert 30 9 (.slice a n cap)).run Try.prog w9 = .ok (.string ⟨bs.toArray⟩) w9 := conv_n (HAt.out.adds A9.out) HN.out
  go_wp2_with (go_at_call 21; refine (HW.out w9).mono ?_; rintro e w10 ⟨rfl, hA10⟩; have A10 := hid hA10; clear hA10)
  go_ret
  exact ⟨rfl, A9.out.trans A10.out⟩
end Go.Proofs.Ytplppnngmlljnaa
