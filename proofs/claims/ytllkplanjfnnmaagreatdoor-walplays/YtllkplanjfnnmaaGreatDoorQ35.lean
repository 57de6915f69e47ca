/- Texts put together: WQ4, WQ5. -/
import Derived.Test.YtllkplanjfnnmaaGreatDoorQ30
import Derived.Test.YtllkplanjfnnmaaGreatDoorQ33
import Derived.Test.YtllkplanjfnnmaaGreatDoorQ34
import Derived.Deep.CutBlock
import Derived.BigQuiet
import Derived.Deep.DeepCutAuto
/- The reference's group: the one that stands from a sector on. -/
namespace Go.Proofs.YtllkplanjfnnmaaGreatDoor
open Go.RowKit

set_option maxRecDepth 100000 in
theorem M.oErr_all {bs : List UInt8} (h : M.oErr bs = 0) : bs.length = 256 ∧ M.some0 (bs.take 8) = true ∧ bs.take 8 = bs.drop 248 ∧ openErr (bs.take 248) = 0 ∧ M.kindOf bs ≠ 0 ∧ M.lenOf bs ≤ 233 ∧ M.some0 (M.behindOf bs) = false := by
  unfold M.oErr at h
  by_cases h1 : bs.length ≠ 256
  · rw [if_pos h1] at h; cases h
  · rw [if_neg h1] at h
    by_cases h2 : M.unfix (bs.take 8) = 0
    · rw [if_pos h2] at h; cases h
    · rw [if_neg h2] at h
      by_cases h3 : bs.take 8 ≠ bs.drop 248
      · rw [if_pos h3] at h; cases h
      · rw [if_neg h3] at h
        by_cases h4 : openErr (bs.take 248) ≠ 0
        · rw [if_pos h4] at h; cases h
        · rw [if_neg h4] at h
          by_cases h5 : M.kindOf bs = 0 ∨ 233 < M.lenOf bs ∨ M.some0 (M.behindOf bs) = true
          · rw [if_pos h5] at h; cases h
          · simp only [not_or] at h5
            refine ⟨Decidable.not_not.1 h1, ?_, Decidable.not_not.1 h3, Decidable.not_not.1 h4, h5.1, by omega, by simpa using h5.2.2⟩
            cases hs : M.some0 (bs.take 8) with
            | true => rfl
            | false => exact absurd ((unfix_zero _).2 hs) h2
set_option maxRecDepth 100000 in
theorem rsopen_piece (g cap : Nat) (s : List UInt8) (w : World) (hcap : 256 ≤ cap) (hA : At w (some ⟨g, 0, none⟩) s) (h0 : M.oErr s = 0) :
    Calls Tryz.prog 77 #[.slice (some ⟨g, 0, none⟩) 256 cap] w fun e w' => e = .returned (.tuple #[.int .u64 (M.oMark s : Int), .int .u8 ((M.oKind s).toNat : Int), .slice (some ⟨g, 10, none⟩) (M.oBody s).length (cap - 10), .int .i64 0]) ∧ Hid (At w' (some ⟨g, 10, none⟩) (M.oBody s) ∧ Adds w w') := by
  obtain ⟨h1, h2, h3, h4, h5, h6, h7⟩ := M.oErr_all h0
  refine (rsopen0 g 0 cap s w h1 hcap hA h2 h3 h4 h5 h6 h7).mono ?_
  rintro e w' ⟨rfl, hA'⟩
  have hb : M.oBody s = (s.drop 10).take (M.lenOf s) := by rw [M.oBody, if_pos h0]
  have hlb : (M.oBody s).length = M.lenOf s := by rw [hb, List.length_take, List.length_drop]; omega
  refine ⟨by rw [M.oMark, if_pos h0, M.oKind, if_pos h0, hlb, Nat.zero_add], ?_, hA'⟩
  rw [hb]
  have q := (hA.suf 10).pre (M.lenOf s)
  rw [Nat.zero_add] at q
  exact q.adds hA'
set_option maxRecDepth 100000 in
theorem str_256 (bs : List UInt8) (h : bs.length = 256) (w : World) : ∃ cap w1, (convert 9 56 (.string ⟨bs.toArray⟩)).run Tryz.prog w = .ok (.slice (some ⟨w.heap.size, 0, none⟩) 256 cap) w1 ∧ 256 ≤ cap ∧ At w1 (some ⟨w.heap.size, 0, none⟩) bs ∧ Adds w w1 ∧ w.heap.size < w1.heap.size := by
  have e : (⟨bs.toArray⟩ : ByteArray).size = 256 := by simp [ByteArray.size, h]
  have q := run_bytes_of_string (P := Tryz.prog) w 9 56 5 ⟨bs.toArray⟩ Tryz.underlying9 Tryz.underlying56 Tryz.underlying5
  rw [e] at q
  have hg : (w.drew.alloc (Obj.cells (bytesRow ⟨bs.toArray⟩ (grownCap w 256 0 5)) 5 ((bytesRow ⟨bs.toArray⟩ (grownCap w 256 0 5)).size, (bytesRow ⟨bs.toArray⟩ (grownCap w 256 0 5)).size + 1))).heap[w.heap.size]? = some _ := heap_alloc_new w.drew _
  refine ⟨_, _, q, grownCap_ge w 256 0 5, ?_, (Touch.refl _ w).drew.alloc _, (Array.getElem?_eq_some_iff.1 hg).1⟩
  intro j c hj
  refine ⟨_, _, rfl, ?_⟩
  have hlt : j < bs.length := (List.getElem?_eq_some_iff.1 hj).1
  rw [cell_of_row _ _ _ _ _ _ hg, Nat.zero_add, bytesRow_at _ _ j (by simpa using hlt)]
  rw [List.getElem?_eq_getElem hlt] at hj
  obtain rfl : bs[j] = c := by simpa using hj
  rfl
set_option maxRecDepth 100000 in
theorem M.fixed4 {c : List UInt8} (h : 4 ≤ c.length) : (M.fixedR 4 ⟨0, c⟩).1 = (M.fixedR 4 ⟨0, c.take 4⟩).1 := by
  rw [M.fixedR, M.fixedR, show M.clamp 4 = 4 from rfl, M.takeR_ok rfl (by show ¬ c.length < 4; omega), M.takeR_ok rfl (by show ¬ (c.take 4).length < 4; rw [List.length_take]; omega)]
  simp [List.take_take]
/-- The group that stands from a sector on, as the reference takes it. -/
def grpR (ep fr ct : Nat) (D : dSt) (at_ : Nat) : List (List UInt8) := match W.rgrp ep (secOf D fr) (ct - at_) at_ [] with
  | none => []
  | some x => W.recs (x.1.drop 4)
/-- What group tells. -/
def PGrp (w : World) (ls : List (List UInt8)) (z : Int) (e : Ending) (w' : World) : Prop := ∃ v hs, e = .returned (.tuple #[v, .int .i64 z]) ∧ Hid (Fresh w.heap.size w' v hs ∧ hs.map (·.bs) = ls ∧ Adds w w' ∧ (ls = [] → v = .slice none 0 0))
theorem PGrp.none {w w' : World} {ls : List (List UInt8)} (hA : Adds w w') (z : Int) (h : ls = []) : PGrp w ls z (.returned (.tuple #[.slice none 0 0, .int .i64 z])) w' := ⟨_, [], rfl, Fresh.nil _ _, by rw [h]; rfl, hA, fun _ => rfl⟩
/-- Where the taking of a group is. -/
structure GI (w wr : World) (ep fr ct at_ : Nat) (D : dSt) (k : Nat) (v : Value) (b : List UInt8) (sz : Nat) : Prop where
  row : wr.ownsRow 0 5 1 v b.length (S b)
  own : ∀ j, v.ownBlock = some j → w.heap.size ≤ j
  adds : Adds w wr
  low : b.length ≤ 233 * k
  mode : (b.length < sz ∧ W.rgrp ep (secOf D fr) (ct - at_) at_ [] = W.rgrp ep (secOf D fr) (ct - at_ - k) (at_ + k) b ∧ ((k = 0 ∧ b = [] ∧ sz = 4) ∨ (0 < k ∧ 4 ≤ b.length ∧ sz = W.need b))) ∨ (sz ≤ b.length ∧ 4 ≤ b.length ∧ ∃ j, W.rgrp ep (secOf D fr) (ct - at_) at_ [] = some (b, j))
theorem GI.adds' {w wr w' : World} {ep fr ct at_ : Nat} {D : dSt} {k : Nat} {v : Value} {b : List UInt8} {sz : Nat} (h : GI w wr ep fr ct at_ D k v b sz) (hA : Adds wr w') : GI w w' ep fr ct at_ D k v b sz := ⟨row_touch h.row hA (fun _ _ => id), h.own, h.adds.trans hA, h.low, h.mode⟩
/-- What the next sector tells, where it is of the group. -/
structure Nx (ep i : Nat) (s b : List UInt8) (sz : Nat) : Prop where
  e0 : M.oErr s = 0
  mrk : M.oMark s = W.mark ep i
  kd : M.oKind s = W.kind b.length
  ge : 4 ≤ (b ++ M.oBody s).length
  nd : sz = W.need (b ++ M.oBody s)
  len : (M.oBody s).length = min (sz - b.length) 233
set_option maxRecDepth 100000 in
theorem Nx.step {ep i n : Nat} {sec : Nat → List UInt8} {s b : List UInt8} {sz : Nat} (hs : s = sec i) (h : Nx ep i s b sz) : W.rgrp ep sec (n + 1) i b = if (b ++ M.oBody s).length < sz then W.rgrp ep sec n (i + 1) (b ++ M.oBody s) else some (b ++ M.oBody s, i + 1) := by
  subst hs
  have h1 := h.ge
  rw [W.rgrp, if_neg (by simp only [not_or, Decidable.not_not]; exact ⟨h.e0, h.mrk, h.kd⟩), if_neg (by omega), if_neg (by rw [← h.nd, h.len]; simp), ← h.nd]
set_option maxRecDepth 100000 in
theorem rgrp_stop {ep i n : Nat} {sec : Nat → List UInt8} {s b : List UInt8} (hs : s = sec i) (h : (M.oErr s ≠ 0 ∨ M.oMark s ≠ W.mark ep i ∨ M.oKind s ≠ W.kind b.length) ∨ (b ++ M.oBody s).length < 4 ∨ (M.oBody s).length ≠ min (W.need (b ++ M.oBody s) - b.length) 233) : W.rgrp ep sec n i b = none := by
  subst hs
  cases n with
  | zero => rfl
  | succ n =>
    rw [W.rgrp]
    rcases h with h | h | h
    · rw [if_pos h]
    · split
      · rfl
      · rfl
    · split
      · rfl
      · split
        · rfl
        · rfl
set_option maxRecDepth 100000 in
/-- One more piece. -/
theorem GI.next {w wr w2 w3 : World} {ep fr ct at_ : Nat} {D : dSt} {k n : Nat} {v v' : Value} {b s : List UInt8} {sz sz' : Nat} (h : GI w wr ep fr ct at_ D k v b sz) (hlt : b.length < sz) (hk : k < ct - at_) (hs : s = secOf D fr (at_ + k)) (hx : Nx ep (at_ + k) s b sz') (hA : Adds wr w2) (hn : b.length = n) (hG : Grew w2 w3 5 v v' (n + (M.oBody s).length) (S b ++ S (M.oBody s))) :
    GI w w3 ep fr ct at_ D (k + 1) v' (b ++ M.oBody s) sz' := by
  subst hn
  have hz := (h.adds.trans hA).size
  have hb := W.oBody_le s
  have hge := hx.ge
  refine ⟨by rw [List.length_append, S_append]; exact hG.1, hG.lt hz h.own, (h.adds.trans hA).then hG.touch (fun j hj c => by have := h.own j c; omega), by rw [List.length_append]; have := h.low; omega, ?_⟩
  rcases h.mode with ⟨_, e, _⟩ | ⟨c, _⟩
  · obtain ⟨m, hm⟩ : ∃ m, ct - at_ - k = m + 1 := ⟨ct - at_ - k - 1, by omega⟩
    rw [hm, hx.step hs] at e
    by_cases hl : (b ++ M.oBody s).length < sz'
    · rw [if_pos hl] at e
      refine .inl ⟨hl, ?_, .inr ⟨by omega, hge, hx.nd⟩⟩
      rw [e, show ct - at_ - (k + 1) = m by omega, show at_ + (k + 1) = at_ + k + 1 by omega]
    · rw [if_neg hl] at e
      exact .inr ⟨by omega, hge, _, e⟩
  · omega
set_option maxRecDepth 100000 in
theorem GI.stop {w wr : World} {ep fr ct at_ : Nat} {D : dSt} {k : Nat} {v : Value} {b s : List UInt8} {sz : Nat} (h : GI w wr ep fr ct at_ D k v b sz) (hlt : b.length < sz) (hs : s = secOf D fr (at_ + k)) (hx : (M.oErr s ≠ 0 ∨ M.oMark s ≠ W.mark ep (at_ + k) ∨ M.oKind s ≠ W.kind b.length) ∨ (b ++ M.oBody s).length < 4 ∨ (M.oBody s).length ≠ min (W.need (b ++ M.oBody s) - b.length) 233) : grpR ep fr ct D at_ = [] := by
  rcases h.mode with ⟨_, e, _⟩ | ⟨c, _⟩
  · rw [grpR, e, rgrp_stop hs hx]
  · omega
set_option maxRecDepth 100000 in
theorem GI.over {w wr : World} {ep fr ct at_ : Nat} {D : dSt} {k : Nat} {v : Value} {b : List UInt8} {sz : Nat} (h : GI w wr ep fr ct at_ D k v b sz) (hlt : b.length < sz) (hk : ct - at_ ≤ k) : grpR ep fr ct D at_ = [] := by
  rcases h.mode with ⟨_, e, _⟩ | ⟨c, _⟩
  · rw [grpR, e, show ct - at_ - k = 0 by omega]; rfl
  · omega
set_option maxRecDepth 100000 in
theorem GI.done {w wr : World} {ep fr ct at_ : Nat} {D : dSt} {k : Nat} {v : Value} {b : List UInt8} {sz : Nat} (h : GI w wr ep fr ct at_ D k v b sz) (hlt : ¬ b.length < sz) : 4 ≤ b.length ∧ grpR ep fr ct D at_ = W.recs (b.drop 4) := by
  rcases h.mode with ⟨c, _⟩ | ⟨_, c, j, e⟩
  · exact absurd c hlt
  · exact ⟨c, by rw [grpR, e]⟩
set_option maxRecDepth 100000 in
theorem need_big (b : List UInt8) : W.need b < 4294967300 := by
  unfold W.need
  have h1 := (M.fix_unfix (M.takeR (M.clamp 4) ⟨0, b.take 4⟩).1.length (M.takeR (M.clamp 4) ⟨0, b.take 4⟩).1 rfl).2
  have h2 : (M.takeR (M.clamp 4) ⟨0, b.take 4⟩).1.length ≤ 4 := M.takeR_len _ _
  have h5 : 256 ^ (M.takeR (M.clamp 4) ⟨0, b.take 4⟩).1.length ≤ 256 ^ 4 := Nat.pow_le_pow_right (by decide) h2
  show 4 + M.unfix (M.takeR (M.clamp 4) ⟨0, b.take 4⟩).1 < _
  omega
set_option maxRecDepth 100000 in
set_option maxHeartbeats 4000000 in
theorem q_group {w : World} {OQ OR : Nat → Prop} {q rp : Nat} {vL : Value} {t : List Pl} {s0 : Pl} {L : LS} {D : dSt} {n0 : Nat} (h : IsQ w OQ q rp vL t s0 L) (hR : IsRO w OR rp D) (hk : DOk D n0) (hn0 : n0 ≤ 900) (hon : D.left ≠ 0) (hep : L.ep ≤ 1000000000) (hct : L.ct ≤ 17) (hfr : L.fr ≤ 4096) (h3 : L.fr + L.ct ≤ D.size) (at_ : Nat) (hat : at_ ≤ L.ct) :
    Calls Tryz.prog 49 #[Ptr q, .int .i64 (at_ : Int)] w (PGrp w (grpR L.ep L.fr L.ct D at_) 0) := by
  have HBx := hid h.box
  generalize L.ep = ep at *
  generalize L.fr = fr at *
  generalize L.ct = ct at *
  have HRd := hid (fun (w' : World) (hA : Adds w w') (i : Nat) (hi : i < ct) (iz : Int) (hiz : iz = (fr : Int) + (i : Int)) => show Calls Tryz.prog 37 #[Ptr rp, .int .i64 iz] w' (Tells (.tuple #[.string ⟨(secOf D fr i).toArray⟩, .int .i64 0]) w') from
    ro_read (hR.adds hA) hk hn0 iz (by omega) (secOf D fr i) 0 (by rw [rdS, if_neg hon, secOf, hiz]; rfl) (by rw [if_neg hon]))
  have HLn := hid (show ∀ i, (secOf D fr i).length = 256 from fun i => by
    obtain ⟨hv, wv, hd, _⟩ := hR
    exact hasOf_len _ hd.good D.W hd.goodW)
  clear h hR hk hn0 hon h3
  go_enter Tryz.func49, Tryz.ntmps49
  go_wp2_with fail
  go_loopw [6, 7, 8] (fun v sv i wr => ∃ (k : Nat) (b : List UInt8) (sz : Nat), k ≤ ct - at_ ∧ i = .int .i64 (k : Int) ∧ sv = .int .i64 (sz : Int) ∧ sz < 4294967300 ∧ Hid (GI w wr ep fr ct at_ D k v b sz)) (fun _ _ i _ => (ct - at_) - (intOf i).toNat)
  case atStart => exact ⟨0, [], 4, Nat.zero_le _, rfl, rfl, by decide, ⟨World.ownsRow_nil _ _ _ _, fun _ hk => (by cases hk), Touch.refl _ _, Nat.zero_le _, .inl ⟨by decide, rfl, .inl ⟨rfl, rfl, rfl⟩⟩⟩⟩
  case round =>
    obtain ⟨k, b, sz, hk, rfl, rfl, hsz, HI⟩ := hrel
    obtain ⟨bn, hbn⟩ : ∃ bn, bn = b.length := ⟨_, rfl⟩
    obtain ⟨ba, bc, hv, hbc, hba, hbq⟩ := own_cq HI.out.row
    rw [← hbn] at hv hbc
    have hbl : bn ≤ 3961 := by rw [hbn]; have := HI.out.low; omega
    have c2 : wr.cell? ⟨q, 2, none⟩ = some (.int .i64 (ct : Int)) := by have c := cellOf (HI.out.adds.at' HBx.out id) 2; simpa using c
    have c0 : wr.cell? ⟨q, 0, none⟩ = some (Ptr rp) := by have c := cellOf (HI.out.adds.at' HBx.out id) 0; simpa using c
    have c1 : wr.cell? ⟨q, 1, none⟩ = some (.int .i64 (fr : Int)) := by have c := cellOf (HI.out.adds.at' HBx.out id) 1; simpa using c
    have HBN := hid (And.intro hbn (And.intro hba hbq))
    by_cases hlt : bn < sz
    · have HLT := hid (show b.length < sz by rw [← hbn]; exact hlt)
      by_cases hin : at_ + k < ct
      · obtain ⟨s, hs⟩ : ∃ s, s = secOf D fr (at_ + k) := ⟨_, rfl⟩
        have HS := hid hs
        have HRD := hid (fun (w' : World) (hA : Adds w w') (iz : Int) (hiz : iz = (fr : Int) + (at_ : Int) + (k : Int)) => show Calls Tryz.prog 37 #[Ptr rp, .int .i64 iz] w' (fun e w'' => e = .returned (.tuple #[.string ⟨s.toArray⟩, .int .i64 0]) ∧ w'' = w') by rw [hs]; exact HRd.out w' hA (at_ + k) hin iz (by omega))
        have hsl : s.length = 256 := by rw [hs]; exact HLn.out _
        subst hv
        clear hs hbn hba hbq
        go_upto_region 8 with fail
        go_quiet (first | (go_at_call 37; refine Calls.quiet_of_same (HRD.out _ (HI.out.adds.trans (adds_drewN _ _)) _ (by first | rfl | omega))))
        obtain ⟨wd, hwd⟩ : ∃ wd, wd = wr.drewN nq := ⟨_, rfl⟩
        rw [← hwd]
        have HI2 := hid (show GI w wd ep fr ct at_ D k (.slice ba bn bc) b sz by rw [hwd]; exact HI.out.adds' (adds_drewN wr nq))
        clear hwd c0 c1 c2 HI
        obtain ⟨sc, w2, hcv, hsc, hAs, hA2, hz2⟩ := str_256 s hsl wd
        obtain ⟨mz, hmz⟩ : ∃ mz : Nat, mz = M.oMark s := ⟨_, rfl⟩
        obtain ⟨kz, hkz⟩ : ∃ kz : Nat, kz = (M.oKind s).toNat := ⟨_, rfl⟩
        obtain ⟨me, hme⟩ : ∃ me : Nat, me = W.mark ep (at_ + k) := ⟨_, rfl⟩
        obtain ⟨cn, hcn⟩ : ∃ cn, cn = (M.oBody s).length := ⟨_, rfl⟩
        have hcn2 : cn ≤ 233 := by rw [hcn]; exact W.oBody_le s
        have HCN := hid hcn
        have HMk := hid (fun (w' : World) (hA : Adds w w') (iz : Int) (hiz : iz = (at_ : Int) + (k : Int)) => show Calls Tryz.prog 53 #[Ptr q, .int .i64 iz] w' (Tells (.int .u64 (me : Int)) w') from q_mark q ep (at_ + k) iz (by omega) w' (by have c := cellOf (hA.at' HBx.out id) 3; simpa using c) hep (by omega) me (by rw [hme]))
        have HA2 := hid hA2
        have HZ2 := hid hz2
        clear hA2 hz2 hcn
        by_cases h0 : M.oErr s = 0
        · have HOp := hid (rsopen_piece wd.heap.size sc s w2 hsc hAs h0)
          rw [← hmz, ← hkz, ← HCN.out] at HOp
          clear hAs
          by_cases hm : mz = me
          · have q1 : ((mz : Int) != (me : Int)) = false := by simp; omega
            have q2 : (mz != me) = false := by simp; omega
            by_cases hk0 : k = 0
            · subst hk0
              have HB0 := hid (show b = [] ∧ sz = 4 by
                rcases HI2.out.mode with ⟨_, _, c⟩ | ⟨c, _⟩
                · rcases c with c | c
                  · exact c.2
                  · exact absurd c.1 (Nat.lt_irrefl 0)
                · have := HLT.out; omega)
              obtain rfl : bn = 0 := by rw [HBN.out.1, HB0.out.1]; rfl
              by_cases hkd : kz = 1
              · subst hkd
                by_cases hc4 : cn < 4
                · have hc4' : (cn : Int) < 4 := by omega
                  have HSt := hid (show grpR ep fr ct D at_ = [] from HI2.out.stop HLT.out HS.out (.inr (.inl (by rw [HB0.out.1, List.nil_append, ← HCN.out]; exact hc4))))
                  clear hm hmz hkz hme
                  go_wp2_with (first
                    | (go_at_call 77; refine HOp.out.mono ?_; rintro e w3 ⟨rfl, H3⟩)
                    | (go_at_call 53; refine (HMk.out w3 (HI2.out.adds.trans (HA2.out.trans H3.out.2)) _ (by first | rfl | omega | simp)).mono ?_; rintro e _ ⟨rfl, hw⟩; rw [hw]; clear hw))
                  go_ret2
                  exact PGrp.none (HI2.out.adds.trans (HA2.out.trans H3.out.2)) 0 HSt.out
                · obtain ⟨fx, hfx⟩ : ∃ fx, fx = (M.fixedR 4 ⟨0, M.oBody s⟩).1 := ⟨_, rfl⟩
                  obtain ⟨nd, hnd⟩ : ∃ nd, nd = 4 + fx := ⟨_, rfl⟩
                  have HND := hid (show nd = W.need (b ++ M.oBody s) by rw [hnd, HB0.out.1, List.nil_append, W.need, hfx, M.fixed4 (by rw [← HCN.out]; omega)])
                  have hfx2 : nd < 4294967300 := by rw [HND.out]; exact need_big _
                  have HSZ := hid hfx2
                  have hfx3 : fx < 4294967296 := by omega
                  have HFx := hid (fun (w3 : World) (hA : At w3 (some ⟨wd.heap.size, 10, none⟩) (M.oBody s)) (hz : wd.heap.size < w3.heap.size) => show Calls Tryz.prog 78 #[Ptr w3.heap.size, .int .i64 4] (w3.alloc (.cells #[.slice (some ⟨wd.heap.size, 10, none⟩) cn (sc - 10), .int .i64 0] 126)) (PS (w3.alloc (.cells #[.slice (some ⟨wd.heap.size, 10, none⟩) cn (sc - 10), .int .i64 0] 126)) w3.heap.size (.int .u64 (fx : Int)) (M.fixedR 4 ⟨0, M.oBody s⟩).2) by
                    rw [hfx]
                    exact rfixed_any 4 (boxed_R HCN.out.symm (by omega) ⟨hA, by rw [← HCN.out]; omega, fun e => (by cases e), fun ad e => (by cases e; exact ⟨rfl, hz⟩)⟩))
                  have HE0 := hid (And.intro h0 (And.intro (show M.oMark s = W.mark ep (at_ + 0) by rw [← hmz, ← hme]; exact hm) (show M.oKind s = W.kind b.length by rw [HB0.out.1]; exact UInt8.toNat_inj.1 (by rw [← hkz]; rfl))))
                  have HGE := hid (show 4 ≤ (b ++ M.oBody s).length by rw [HB0.out.1, List.nil_append, ← HCN.out]; omega)
                  have hbR := fun w => build_R (some ⟨wd.heap.size, 10, none⟩) cn (sc - 10) w
                  have hc4' : ¬ (cn : Int) < 4 := by omega
                  have HND2 := hid hnd
                  clear hm hmz hkz hme hfx h0 hnd hfx2
                  go_upto_region 19 with (first
                    | (go_at_call 77; refine HOp.out.mono ?_; rintro e w3 ⟨rfl, H3⟩)
                    | (go_at_call 53; refine (HMk.out w3 (HI2.out.adds.trans (HA2.out.trans H3.out.2)) _ (by first | rfl | omega | simp)).mono ?_; rintro e _ ⟨rfl, hw⟩; rw [hw]; clear hw)
                    | (go_at_call 78; refine (HFx.out w3 H3.out.1 (Nat.lt_of_lt_of_le HZ2.out H3.out.2.size)).mono ?_; rintro e w4 ⟨rfl, _, hT4⟩; have HA34 := hid (show Adds w3 w4 from Adds.own ((Touch.refl _ w3).alloc _) hT4 (Nat.le_refl _)); clear hT4))
                  rw [show (4 : Int) + (fx : Int) = (nd : Int) by rw [HND2.out]; omega]
                  have hnd4 : 4 ≤ nd := by rw [HND2.out]; omega
                  have hfx2 : nd < 4294967300 := HSZ.out
                  clear hfx3
                  by_cases h233 : 233 < nd - 0
                  · have d1 : decide ((233 : Int) < (nd : Int)) = true := by simp; omega
                    have d1' : decide (233 < nd) = true := by simp; omega
                    by_cases hcw : cn = 233
                    · have d2 : ((cn : Int) != 233) = false := by simp; omega
                      have d3 : (cn != 233) = false := by simp; omega
                      have HNx := hid (show Nx ep (at_ + 0) s b nd from ⟨HE0.out.1, HE0.out.2.1, HE0.out.2.2, HGE.out, HND.out, by rw [← HCN.out, ← HBN.out.1]; omega⟩)
                      clear hcw h233
                      go_wp2_with (first
                        | (at_builtin; refine append_t rfl _ _ rfl (.slice ba 0 bc) 0 (S b) rfl (by have q := (HI2.out.adds' ((HA2.out.trans H3.out.2).trans HA34.out)).row; rw [← HBN.out.1] at q; exact q) ⟨wd.heap.size, 10, none⟩ (M.oBody s) cn (sc - 10) HCN.out.symm rfl (H3.out.1.adds HA34.out) (by omega) ?_; intro v5 w5 G5; have HG := hid G5; clear G5))
                      go_roundw
                      case rel => exact ⟨0 + 1, b ++ M.oBody s, nd, by omega, by go_num, rfl, HSZ.out, HI2.out.next HLT.out (by omega) HS.out HNx.out ((HA2.out.trans H3.out.2).trans HA34.out) HBN.out.1.symm (by rw [← HCN.out]; exact HG.out)⟩
                      case measure => simp [intOf]; omega
                    · have d2 : ((cn : Int) != 233) = true := by simp; omega
                      have d3 : (cn != 233) = true := by simp; omega
                      have HSt := hid (show grpR ep fr ct D at_ = [] from HI2.out.stop HLT.out HS.out (.inr (.inr (by rw [← HND.out, ← HCN.out, ← HBN.out.1]; omega))))
                      clear hcw h233
                      go_wp2_with fail
                      go_ret2
                      exact PGrp.none (HI2.out.adds.trans ((HA2.out.trans H3.out.2).trans HA34.out)) 0 HSt.out
                  · have d1 : decide ((233 : Int) < (nd : Int)) = false := by simp; omega
                    have d1' : decide (233 < nd) = false := by simp; omega
                    by_cases hcw : cn = nd - 0
                    · have d2 : ((cn : Int) != ((nd : Int))) = false := by simp; omega
                      have d3 : (cn != nd) = false := by simp; omega
                      have HNx := hid (show Nx ep (at_ + 0) s b nd from ⟨HE0.out.1, HE0.out.2.1, HE0.out.2.2, HGE.out, HND.out, by rw [← HCN.out, ← HBN.out.1]; omega⟩)
                      clear hcw h233
                      go_wp2_with (first
                        | (at_builtin; refine append_t rfl _ _ rfl (.slice ba 0 bc) 0 (S b) rfl (by have q := (HI2.out.adds' ((HA2.out.trans H3.out.2).trans HA34.out)).row; rw [← HBN.out.1] at q; exact q) ⟨wd.heap.size, 10, none⟩ (M.oBody s) cn (sc - 10) HCN.out.symm rfl (H3.out.1.adds HA34.out) (by omega) ?_; intro v5 w5 G5; have HG := hid G5; clear G5))
                      go_roundw
                      case rel => exact ⟨0 + 1, b ++ M.oBody s, nd, by omega, by go_num, rfl, HSZ.out, HI2.out.next HLT.out (by omega) HS.out HNx.out ((HA2.out.trans H3.out.2).trans HA34.out) HBN.out.1.symm (by rw [← HCN.out]; exact HG.out)⟩
                      case measure => simp [intOf]; omega
                    · have d2 : ((cn : Int) != ((nd : Int))) = true := by simp; omega
                      have d3 : (cn != nd) = true := by simp; omega
                      have HSt := hid (show grpR ep fr ct D at_ = [] from HI2.out.stop HLT.out HS.out (.inr (.inr (by rw [← HND.out, ← HCN.out, ← HBN.out.1]; omega))))
                      clear hcw h233
                      go_wp2_with fail
                      go_ret2
                      exact PGrp.none (HI2.out.adds.trans ((HA2.out.trans H3.out.2).trans HA34.out)) 0 HSt.out
              · have q3 : ((kz : Int) != 1) = true := by simp; omega
                have q4 : (kz != 1) = true := by simp; omega
                have HSt := hid (show grpR ep fr ct D at_ = [] from HI2.out.stop HLT.out HS.out (.inl (.inr (.inr (by rw [HB0.out.1]; intro e; rw [e] at hkz; exact hkd (by rw [hkz]; rfl))))))
                clear hm hmz hkz hme hkd h0
                go_wp2_with (first
                  | (go_at_call 77; refine HOp.out.mono ?_; rintro e w3 ⟨rfl, H3⟩)
                  | (go_at_call 53; refine (HMk.out w3 (HI2.out.adds.trans (HA2.out.trans H3.out.2)) _ (by first | rfl | omega | simp)).mono ?_; rintro e _ ⟨rfl, hw⟩; rw [hw]; clear hw))
                go_ret2
                exact PGrp.none (HI2.out.adds.trans (HA2.out.trans H3.out.2)) 0 HSt.out
            · have HB1 := hid (show 4 ≤ b.length ∧ sz = W.need b by
                rcases HI2.out.mode with ⟨_, _, c⟩ | ⟨c, _⟩
                · rcases c with c | c
                  · exact absurd c.1 hk0
                  · exact c.2
                · have := HLT.out; omega)
              have k1 : ((k : Int) == 0) = false := by simp; omega
              have k2 : (k == 0) = false := by simp; omega
              have k3 : decide ((0 : Int) < (k : Int)) = true := by simp; omega
              have k4 : decide (0 < k) = true := by simp; omega
              have HKB := hid (show W.kind b.length = 2 by have := HB1.out.1; rw [W.kind, if_neg (by omega)])
              by_cases hkd : kz = 2
              · subst hkd
                have HND := hid (show sz = W.need (b ++ M.oBody s) by rw [W.need_app HB1.out.1]; exact HB1.out.2)
                have HSZ := hid hsz
                have HE0 := hid (And.intro h0 (And.intro (show M.oMark s = W.mark ep (at_ + k) by rw [← hmz, ← hme]; exact hm) (show M.oKind s = W.kind b.length by rw [HKB.out]; exact UInt8.toNat_inj.1 (by rw [← hkz]; rfl))))
                have HGE := hid (show 4 ≤ (b ++ M.oBody s).length by rw [List.length_append]; have := HB1.out.1; omega)
                clear hm hmz hkz hme h0 hk0
                go_upto_region 19 with (first
                  | (go_at_call 77; refine HOp.out.mono ?_; rintro e w3 ⟨rfl, H3⟩)
                  | (go_at_call 53; refine (HMk.out w3 (HI2.out.adds.trans (HA2.out.trans H3.out.2)) _ (by first | rfl | omega | simp)).mono ?_; rintro e _ ⟨rfl, hw⟩; rw [hw]; clear hw))
                by_cases h233 : 233 < sz - bn
                · have d1 : decide ((233 : Int) < (sz : Int) - (bn : Int)) = true := by simp; omega
                  by_cases hcw : cn = 233
                  · have d2 : ((cn : Int) != 233) = false := by simp; omega
                    have d3 : (cn != 233) = false := by simp; omega
                    have HNx := hid (show Nx ep (at_ + k) s b sz from ⟨HE0.out.1, HE0.out.2.1, HE0.out.2.2, HGE.out, HND.out, by rw [← HCN.out, ← HBN.out.1]; omega⟩)
                    clear hcw h233
                    go_wp2_with (first
                      | (at_builtin; refine append_t rfl _ _ rfl (.slice ba bn bc) bn (S b) rfl (by have q := (HI2.out.adds' (HA2.out.trans H3.out.2)).row; rw [← HBN.out.1] at q; exact q) ⟨wd.heap.size, 10, none⟩ (M.oBody s) cn (sc - 10) HCN.out.symm rfl H3.out.1 (by omega) ?_; intro v5 w5 G5; have HG := hid G5; clear G5))
                    go_roundw
                    case rel => exact ⟨k + 1, b ++ M.oBody s, sz, by omega, by go_num, rfl, HSZ.out, HI2.out.next HLT.out (by omega) HS.out HNx.out (HA2.out.trans H3.out.2) HBN.out.1.symm (by rw [← HCN.out]; exact HG.out)⟩
                    case measure => simp [intOf]; omega
                  · have d2 : ((cn : Int) != 233) = true := by simp; omega
                    have d3 : (cn != 233) = true := by simp; omega
                    have HSt := hid (show grpR ep fr ct D at_ = [] from HI2.out.stop HLT.out HS.out (.inr (.inr (by rw [← HND.out, ← HCN.out, ← HBN.out.1]; omega))))
                    clear hcw h233
                    go_wp2_with fail
                    go_ret2
                    exact PGrp.none (HI2.out.adds.trans (HA2.out.trans H3.out.2)) 0 HSt.out
                · have d1 : decide ((233 : Int) < (sz : Int) - (bn : Int)) = false := by simp; omega
                  by_cases hcw : cn = sz - bn
                  · have d2 : ((cn : Int) != ((sz : Int) - (bn : Int))) = false := by simp; omega
                    have HNx := hid (show Nx ep (at_ + k) s b sz from ⟨HE0.out.1, HE0.out.2.1, HE0.out.2.2, HGE.out, HND.out, by rw [← HCN.out, ← HBN.out.1]; omega⟩)
                    clear hcw h233
                    go_wp2_with (first
                      | (at_builtin; refine append_t rfl _ _ rfl (.slice ba bn bc) bn (S b) rfl (by have q := (HI2.out.adds' (HA2.out.trans H3.out.2)).row; rw [← HBN.out.1] at q; exact q) ⟨wd.heap.size, 10, none⟩ (M.oBody s) cn (sc - 10) HCN.out.symm rfl H3.out.1 (by omega) ?_; intro v5 w5 G5; have HG := hid G5; clear G5))
                    go_roundw
                    case rel => exact ⟨k + 1, b ++ M.oBody s, sz, by omega, by go_num, rfl, HSZ.out, HI2.out.next HLT.out (by omega) HS.out HNx.out (HA2.out.trans H3.out.2) HBN.out.1.symm (by rw [← HCN.out]; exact HG.out)⟩
                    case measure => simp [intOf]; omega
                  · have d2 : ((cn : Int) != ((sz : Int) - (bn : Int))) = true := by simp; omega
                    have HSt := hid (show grpR ep fr ct D at_ = [] from HI2.out.stop HLT.out HS.out (.inr (.inr (by rw [← HND.out, ← HCN.out, ← HBN.out.1]; omega))))
                    clear hcw h233
                    go_wp2_with fail
                    go_ret2
                    exact PGrp.none (HI2.out.adds.trans (HA2.out.trans H3.out.2)) 0 HSt.out
              · have q3 : ((kz : Int) != 2) = true := by simp; omega
                have q4 : (kz != 2) = true := by simp; omega
                have HSt := hid (show grpR ep fr ct D at_ = [] from HI2.out.stop HLT.out HS.out (.inl (.inr (.inr (by rw [HKB.out]; intro e; rw [e] at hkz; exact hkd (by rw [hkz]; rfl))))))
                clear hm hmz hkz hme hkd h0 hk0
                go_wp2_with (first
                  | (go_at_call 77; refine HOp.out.mono ?_; rintro e w3 ⟨rfl, H3⟩)
                  | (go_at_call 53; refine (HMk.out w3 (HI2.out.adds.trans (HA2.out.trans H3.out.2)) _ (by first | rfl | omega | simp)).mono ?_; rintro e _ ⟨rfl, hw⟩; rw [hw]; clear hw))
                go_ret2
                exact PGrp.none (HI2.out.adds.trans (HA2.out.trans H3.out.2)) 0 HSt.out
          · have q1 : ((mz : Int) != (me : Int)) = true := by simp; omega
            have q2 : (mz != me) = true := by simp; omega
            have HSt := hid (show grpR ep fr ct D at_ = [] from HI2.out.stop HLT.out HS.out (.inl (.inr (.inl (by rw [← hmz, ← hme]; exact hm)))))
            clear hm hmz hkz hme h0
            go_wp2_with (first
              | (go_at_call 77; refine HOp.out.mono ?_; rintro e w3 ⟨rfl, H3⟩)
              | (go_at_call 53; refine (HMk.out w3 (HI2.out.adds.trans (HA2.out.trans H3.out.2)) _ (by first | rfl | omega | simp)).mono ?_; rintro e _ ⟨rfl, hw⟩; rw [hw]; clear hw))
            go_ret2
            exact PGrp.none (HI2.out.adds.trans (HA2.out.trans H3.out.2)) 0 HSt.out
        · obtain ⟨oz, hoz⟩ : ∃ oz, oz = M.oErr s := ⟨_, rfl⟩
          have HOp := hid (show Calls Tryz.prog 77 #[.slice (some ⟨wd.heap.size, 0, none⟩) 256 sc] w2 (PRSO w2 s) by have q := rsopen_any (some ⟨wd.heap.size, 0, none⟩) s sc w2 (by omega) hAs; rw [hsl] at q; exact q)
          have q5 : ((oz : Int) != 0) = true := by simp; omega
          have q6 : (oz != 0) = true := by simp; omega
          have HOZ := hid hoz
          have HSt := hid (show grpR ep fr ct D at_ = [] from HI2.out.stop HLT.out HS.out (.inl (.inl h0)))
          clear hoz h0 hmz hkz hme hAs
          go_wp2_with (first
            | (go_at_call 77; refine HOp.out.mono ?_; rintro e w3 ⟨av, cv, rfl, _, hA3⟩; rw [← HOZ.out]; have H3 := hid hA3; clear hA3))
          go_ret2
          exact PGrp.none (HI2.out.adds.trans (HA2.out.trans H3.out)) 0 HSt.out
      · have h1 : decide ((ct : Int) ≤ (at_ : Int) + (k : Int)) = true := by simp; omega
        have h2 : decide (ct ≤ at_ + k) = true := by simp; omega
        subst hv
        have HSt := hid (show grpR ep fr ct D at_ = [] from HI.out.over HLT.out (by omega))
        clear hin
        go_wp2_with fail
        go_ret2
        exact PGrp.none HI.out.adds 0 HSt.out
    · have HDn := hid (HI.out.done (by rw [← hbn]; exact hlt))
      have h4 : 4 ≤ bn := by rw [hbn]; exact HDn.out.1
      subst hv
      have hL : Lies wr wr.heap.size ba b bc := ⟨hbq.at, by rw [← hbn]; exact hbc, hba, fun ad e => by
        obtain ⟨b0, o0, e0⟩ := hbq.at.ad (by omega)
        have hc0 := hbq.at 0 (b[0]'(by omega)) (List.getElem?_eq_getElem (by omega))
        obtain ⟨b1, o1, e1, hc1⟩ := hc0
        rw [e1] at e
        cases e
        exact ⟨rfl, World.block_lt_of_cell? wr _ hc1⟩⟩
      have hL2 := hL.drop 4 (by omega)
      have hsuf := run_suf ba bn bc 4 h4 wr
      obtain ⟨sa, hsa⟩ : ∃ sa, sa = sufAt ba bc 4 := ⟨_, rfl⟩
      rw [← hsa] at hsuf
      have HP := hid (show Calls Tryz.prog 79 #[.slice sa (bn - 4) (bc - 4)] wr (PPar wr (W.recs (b.drop 4))) from parse_any sa (b.drop 4) (bn - 4) (bc - 4) (by rw [List.length_drop, hbn]) wr (by omega) (by rw [hsa]; exact hL2))
      have hsuf' : (Instr.sliceAt 56 (.slice ba bn bc) (some (.int .i64 4)) none none).run Tryz.prog wr = .ok (.slice sa (bn - 4) (bc - 4)) wr := hsuf
      clear hL hL2 hsuf hsa hbq hba hbn
      go_wp2_with (first | (go_at_call 79; refine HP.out.mono ?_; rintro e w2 ⟨v2, hs2, rfl, H2⟩))
      go_ret2
      refine ⟨v2, hs2, rfl, H2.out.1.low HI.out.adds.size, by rw [HDn.out.2]; exact H2.out.2.1, HI.out.adds.trans H2.out.2.2.1, fun c => H2.out.2.2.2 (by rw [← HDn.out.2]; exact c)⟩
end Go.Proofs.YtllkplanjfnnmaaGreatDoor

/- The reference's Open. -/
namespace Go.Proofs.YtllkplanjfnnmaaGreatDoor
open Go.RowKit

theorem IsQ.mono {w : World} {O O' : Nat → Prop} {q rp : Nat} {vL : Value} {t : List Pl} {s : Pl} {L : LS} (h : IsQ w O q rp vL t s L) (hO : ∀ k, O k → O' k) : IsQ w O' q rp vL t s L :=
  ⟨h.box, h.rows, hO _ h.oq, fun k hk => hO k (h.ol k hk), fun g hg => (h.data g hg).mono (fun k _ c => ⟨hO k c.1, c.2⟩), h.wait.mono (fun k _ c => ⟨hO k c.1, c.2⟩), h.same, h.rest⟩
set_option maxRecDepth 100000 in
/-- One more group. -/
theorem IsQ.grow {w1 w2 w3 : World} {O : Nat → Prop} {q rp : Nat} {vL vL' : Value} {t : List Pl} {s : Pl} {L : LS} (h : IsQ w1 O q rp vL t s L) (hlt : ∀ k, O k → k < w1.heap.size) (x : Pl) (hx : GQ w1 (fun k => O k ∧ vL.ownBlock ≠ some k ∧ k ≠ q) x) (hA : Adds w1 w2) (hG : Grew w2 w3 61 vL vL' (t.length + 1) (t.map GV ++ [GV x])) (g : List UInt8) (hg : x.bs = W.recs g) :
    IsQ (w3.setCell ⟨q, 5, none⟩ vL') (fun k => O k ∨ vL'.ownBlock = some k) q rp vL' (t ++ [x]) s { L with G := L.G ++ [g] } ∧ Touch O w1 (w3.setCell ⟨q, 5, none⟩ vL') ∧ ∀ k, vL'.ownBlock = some k → O k ∨ (w1.heap.size ≤ k ∧ k < (w3.setCell ⟨q, 5, none⟩ vL').heap.size) := by
  have hz := hA.size
  have hb3 : w3.heap[q]? = some (.cells #[Ptr rp, .int .i64 (L.fr : Int), .int .i64 (L.ct : Int), .int .i64 (L.ep : Int), .bool L.cl, vL, GV s] 67 (0, 0)) := hG.touch.at' (hA.at' h.box id) h.apart
  have hT : Touch (fun k => k = q) w3 (w3.setCell ⟨q, 5, none⟩ vL') := Touch.setCell (T := fun k => k = q) (Touch.refl _ w3) (p := ⟨q, 5, none⟩) (fun _ => rfl) _
  have hz3 := hT.size
  have hno : ∀ k, O k → vL.ownBlock ≠ some k → vL'.ownBlock ≠ some k := fun k hk hn c => by
    rcases hG.2.2 with e | e
    · exact hn (by rw [← e]; exact c)
    · rw [e] at c; cases c; have := hlt _ hk; omega
  have hq' : vL'.ownBlock ≠ some q := hno q h.oq h.apart
  have keep : ∀ y : Pl, GQ w1 (fun k => O k ∧ vL.ownBlock ≠ some k ∧ k ≠ q) y → GQ (w3.setCell ⟨q, 5, none⟩ vL') (fun k => (O k ∨ vL'.ownBlock = some k) ∧ vL'.ownBlock ≠ some k ∧ k ≠ q) y := fun y hy =>
    (((hy.adds hA).touch hG.touch (fun k c => c.2.1)).touch hT (fun k c => c.2.2)).mono (fun k _ c => ⟨.inl c.1, hno k c.1 c.2.1, c.2.2⟩)
  refine ⟨⟨?_, ?_, .inl h.oq, fun k hk => .inr hk, fun y hy => ?_, keep s h.wait, ?_, h.rest⟩, ?_, fun k hk => ?_⟩
  · rw [setCell_eq_setRow w3 q 5 _ 67 _ _ hb3, setRow_heap w3 q _ _ 67 _ hb3]; rfl
  · rw [List.length_append, List.map_append]
    exact row_touch hG.1 hT (fun k hk c => hq' (by rw [← c]; exact hk))
  · rcases List.mem_append.1 hy with hy | hy
    · exact keep y (h.data y hy)
    · obtain rfl := List.mem_singleton.1 hy
      exact keep y hx
  · show (t ++ [x]).map Pl.bs = (L.G ++ [g]).map W.recs
    rw [List.map_append, List.map_append, h.same, List.map_singleton, List.map_singleton, hg]
  · exact ((hA.mono (fun _ _ c => c.elim)).trans (hG.touch.mono (fun k _ c => h.ol k c))).trans (hT.mono (fun k _ c => by subst c; exact h.oq))
  · rcases hG.2.2 with e | e
    · exact .inl (h.ol k (by rw [← e]; exact hk))
    · have := (row_low hG.1 hk).2
      rw [e] at hk
      cases hk
      exact .inr ⟨by omega, by omega⟩
set_option maxRecDepth 100000 in
theorem build_rlog (rp : Nat) (a b c : Int) (w : World) : (Instr.build 67 #[(0, Ptr rp), (1, .int .i64 a), (2, .int .i64 b), (3, .int .i64 c), (4, .bool true)]).run Tryz.prog w = .ok (.agg #[Ptr rp, .int .i64 a, .int .i64 b, .int .i64 c, .bool true, .slice none 0 0, .slice none 0 0]) w := by kernel_rfl
/-- What Open tells. -/
def POpq (w : World) (rp : Nat) (L : LS) (e : Ending) (w' : World) : Prop := ∃ q, e = .returned (.tuple #[Ptr q, .int .i64 0]) ∧ Hid (∃ vL t s, IsQ w' (fun k => w.heap.size ≤ k ∧ k < w'.heap.size) q rp vL t s L ∧ Adds w w')
/-- How many groups the box at q tells. -/
def lenQ (w : World) (q : Nat) : Nat := match w.cell? ⟨q, 5, none⟩ with
  | some (.slice _ n _) => n
  | _ => 0
set_option maxRecDepth 100000 in
theorem IsQ.lenQ {w : World} {O : Nat → Prop} {q rp : Nat} {vL : Value} {t : List Pl} {s : Pl} {L : LS} (h : IsQ w O q rp vL t s L) : lenQ w q = L.G.length := by
  obtain ⟨a, c, e, _⟩ := own_cq h.rows
  have q5 := cellOf h.box 5
  rw [Go.Proofs.YtllkplanjfnnmaaGreatDoor.lenQ, q5, e]
  exact h.len
/-- Where Open is. -/
structure OI (w wr : World) (q rp fr ct ep : Nat) (D : dSt) (gs : List (List UInt8)) : Prop where
  isq : ∃ vL t, IsQ wr (fun k => w.heap.size ≤ k ∧ k < wr.heap.size) q rp vL t ⟨none, 0, []⟩ ⟨fr, ct, ep, true, gs, []⟩
  adds : Adds w wr
  ok : LS.Ok ⟨fr, ct, ep, true, gs, []⟩
  more : W.find ep (secOf D fr) ct 0 [] [] 0 = W.find ep (secOf D fr) (ct - W.usedOf gs) (W.usedOf gs) [] gs (W.usedOf gs)
set_option maxRecDepth 100000 in
theorem OI.stop {w wr : World} {q rp fr ct ep : Nat} {D : dSt} {gs : List (List UInt8)} (h : OI w wr q rp fr ct ep D gs) (hg : grpR ep fr ct D (W.usedOf gs) = []) : (⟨fr, ct, ep, true, gs, []⟩ : LS) = opL fr ct ep (secOf D fr) := by
  rw [opL, h.more, W.find_rgrp _ _ _ _ _ (W.FI.start _)]
  rw [grpR] at hg
  cases hr : W.rgrp ep (secOf D fr) (ct - W.usedOf gs) (W.usedOf gs) [] with
  | none => rfl
  | some x =>
    rw [hr] at hg
    simp only at hg ⊢
    rw [if_pos hg]
set_option maxRecDepth 100000 in
theorem OI.more' {w wr : World} {q rp fr ct ep : Nat} {D : dSt} {gs : List (List UInt8)} (h : OI w wr q rp fr ct ep D gs) (hct : ct ≤ 10000) (hg : grpR ep fr ct D (W.usedOf gs) ≠ []) : ∃ g, W.recs g = grpR ep fr ct D (W.usedOf gs) ∧ LS.Ok ⟨fr, ct, ep, true, gs ++ [g], []⟩ ∧
    W.find ep (secOf D fr) ct 0 [] [] 0 = W.find ep (secOf D fr) (ct - W.usedOf (gs ++ [g])) (W.usedOf (gs ++ [g])) [] (gs ++ [g]) (W.usedOf (gs ++ [g])) := by
  have hu := h.ok.us
  rw [grpR] at hg ⊢
  cases hr : W.rgrp ep (secOf D fr) (ct - W.usedOf gs) (W.usedOf gs) [] with
  | none => rw [hr] at hg; exact absurd rfl hg
  | some x =>
    obtain ⟨g, j⟩ := x
    rw [hr] at hg
    simp only at hg ⊢
    have h1 := W.rgrp_le _ _ _ _ _ hr
    have h2 := W.rgrp_done _ _ _ _ _ _ (W.FI.start _) hr
    have e1 : W.usedOf (gs ++ [g.drop 4]) = j := by rw [W.usedOf_app]; simp only [W.usedOf]; omega
    have hl : (g.drop 4).length ≤ 233 * 10000 := secs_len (by omega)
    refine ⟨g.drop 4, rfl, ⟨h.ok.fr, h.ok.ct, h.ok.ep, ?_, fun c => absurd rfl c, fun y hy => ?_⟩, ?_⟩
    · show W.usedOf (gs ++ [g.drop 4]) ≤ ct
      rw [e1]
      have : W.usedOf gs ≤ ct := hu
      omega
    · rcases List.mem_append.1 hy with hy | hy
      · exact h.ok.good y hy
      · obtain rfl := List.mem_singleton.1 hy
        exact ⟨by omega, hg⟩
    · rw [h.more, W.find_rgrp _ _ _ _ _ (W.FI.start _), hr]
      simp only
      rw [if_neg hg, e1, show ct - W.usedOf gs - (j - W.usedOf gs) = ct - j by omega]
set_option maxRecDepth 100000 in
theorem q_open_no {w : World} {O : Nat → Prop} {rp : Nat} {D : dSt} (hR : IsRO w O rp D) (fr ct ep : Int) (h1 : fr < 0 ∨ ct < 1 ∨ 10000 < ct ∨ D.size - ct < fr ∨ ep < 1 ∨ 1000000000 < ep) (hsz : D.size ≤ 4096) :
    Calls Tryz.prog 21 #[Ptr rp, .int .i64 fr, .int .i64 ct, .int .i64 ep] w (Tells (.tuple #[.pointer none, .int .i64 2]) w) := by
  obtain ⟨hv, wv, hd, _⟩ := hR
  obtain ⟨g, cap, rfl, hcap, _, _, _⟩ := hd.heldAt
  have hs := hd.size
  have c0 : w.cell? ⟨rp, 0, none⟩ = some (.slice (some ⟨g, 0, none⟩) D.size.toNat cap) := cellOf hd.box 0
  have hq : ((D.size.toNat : Nat) : Int) = D.size := by omega
  generalize D.size.toNat = sn at *
  clear hd
  by_cases a1 : fr < 0
  · clear h1
    go_enter Tryz.func21, Tryz.ntmps21
    go_wp2_with fail
    go_ret2
    exact ⟨rfl, rfl⟩
  have b1 : decide (fr < 0) = false := by simpa using a1
  by_cases a2 : ct < 1
  · clear h1 a1
    go_enter Tryz.func21, Tryz.ntmps21
    go_wp2_with fail
    go_ret2
    exact ⟨rfl, rfl⟩
  have b2 : decide (ct < 1) = false := by simpa using a2
  by_cases a3 : 10000 < ct
  · clear h1 a1 a2
    go_enter Tryz.func21, Tryz.ntmps21
    go_wp2_with fail
    go_ret2
    exact ⟨rfl, rfl⟩
  have b3 : decide (10000 < ct) = false := by simpa using a3
  by_cases a4 : (sn : Int) - ct < fr
  · have hc : 1 ≤ ct ∧ ct ≤ 10000 := by omega
    have hsn : (sn : Int) ≤ 4096 := by omega
    have b4 : decide ((sn : Int) - ct < fr) = true := by simpa using a4
    clear h1 a1 a2 a3 a4 hq hs hsz
    go_enter Tryz.func21, Tryz.ntmps21
    go_wp2_with fail
    go_ret2
    exact ⟨rfl, rfl⟩
  have b4 : decide ((sn : Int) - ct < fr) = false := by simpa using a4
  have hc : 1 ≤ ct ∧ ct ≤ 10000 := by omega
  have hsn : (sn : Int) ≤ 4096 := by omega
  by_cases a5 : ep < 1
  · clear h1 a1 a2 a3 a4 hq hs hsz
    go_enter Tryz.func21, Tryz.ntmps21
    go_wp2_with fail
    go_ret2
    exact ⟨rfl, rfl⟩
  have b5 : decide (ep < 1) = false := by simpa using a5
  have a6 : 1000000000 < ep := by omega
  have b6 : decide (1000000000 < ep) = true := by simpa using a6
  clear h1 a1 a2 a3 a4 a5 hq hs hsz
  go_enter Tryz.func21, Tryz.ntmps21
  go_wp2_with fail
  go_ret2
  exact ⟨rfl, rfl⟩
set_option maxRecDepth 100000 in
theorem eq_nil_some (b m c : Nat) (w : World) : (binOp .eql 61 (.slice (some ⟨b, 0, none⟩) m c) (.slice none 0 0)).run Tryz.prog w = .ok (.bool false) w := by kernel_rfl
set_option maxRecDepth 100000 in
theorem eq_nil_none (w : World) : (binOp .eql 61 (.slice none 0 0) (.slice none 0 0)).run Tryz.prog w = .ok (.bool true) w := by kernel_rfl
theorem OI.start (w : World) (rp fr ct ep : Nat) (D : dSt) (h1 : fr ≤ 4096) (h2 : ct ≤ 10000) (h3 : ep ≤ 1000000000) : OI w (w.alloc (.cells #[Ptr rp, .int .i64 (fr : Int), .int .i64 (ct : Int), .int .i64 (ep : Int), .bool true, .slice none 0 0, .slice none 0 0] 67)) w.heap.size rp fr ct ep D [] :=
  ⟨⟨.slice none 0 0, [], ⟨heap_alloc_new w _, World.ownsRow_nil _ _ _ _, ⟨Nat.le_refl _, by simp⟩, fun _ c => (by cases c), fun _ c => (by cases c), ⟨CQ.nil _ _ _, fun _ => rfl, fun _ c => (by cases c)⟩, rfl, rfl⟩⟩, (Touch.refl _ w).alloc _, ⟨h1, h2, h3, Nat.zero_le _, fun c => absurd rfl c, fun _ c => (by cases c)⟩, rfl⟩
set_option maxRecDepth 100000 in
/-- What Open has behind one more group. -/
theorem OI.next {w wr w1 w2 w3 : World} {q rp fr ct ep : Nat} {D : dSt} {gs : List (List UInt8)} (h : OI w wr q rp fr ct ep D gs) (hct : ct ≤ 10000) (hg : grpR ep fr ct D (W.usedOf gs) ≠ []) {vL vL' : Value} {t : List Pl} (hq : IsQ wr (fun k => w.heap.size ≤ k ∧ k < wr.heap.size) q rp vL t ⟨none, 0, []⟩ ⟨fr, ct, ep, true, gs, []⟩) (hA : Adds wr w1)
    {va : Option Addr} {vc m : Nat} {hs : List Part} (hm : hs.length = m) (hF : Fresh wr.heap.size w1 (.slice va m vc) hs) (hb : hs.map (·.bs) = grpR ep fr ct D (W.usedOf gs)) (hA2 : Adds w1 w2) (hG : Grew w2 w3 61 vL vL' (t.length + 1) (t.map GV ++ [.slice va m vc])) : ∃ gs', lenQ wr q < gs'.length ∧ OI w (w3.setCell ⟨q, 5, none⟩ vL') q rp fr ct ep D gs' := by
  subst hm
  obtain ⟨g, h1, h2, h3⟩ := h.more' hct hg
  have z0 := h.adds.size
  have z1 := hA.size
  have z2 := hA2.size
  have hq1 : IsQ w1 (fun k => w.heap.size ≤ k ∧ k < w1.heap.size) q rp vL t ⟨none, 0, []⟩ ⟨fr, ct, ep, true, gs, []⟩ := (hq.add hA).mono (fun k c => ⟨c.1, by omega⟩)
  obtain ⟨fa, fc, fe, _, fn, fq⟩ := own_cq hF.rows
  have hql := hq.oq.2
  have hvl : ∀ k, vL.ownBlock = some k → k < wr.heap.size := fun k c => (row_low hq.rows c).2
  have hx : GQ w1 (fun k => (w.heap.size ≤ k ∧ k < w1.heap.size) ∧ vL.ownBlock ≠ some k ∧ k ≠ q) ⟨va, vc, hs⟩ := by
    cases fe
    have key : ∀ k, k < w1.heap.size → wr.heap.size ≤ k → ((w.heap.size ≤ k ∧ k < w1.heap.size) ∧ vL.ownBlock ≠ some k ∧ k ≠ q) := fun k hk c => ⟨⟨by omega, hk⟩, fun c' => by have := hvl k c'; omega, by omega⟩
    exact ⟨fq.mono (fun k hk c => key k hk (hF.own k c)), fn, fun x hx => (hF.data x hx).mono (fun k hk c => key k hk c.1)⟩
  obtain ⟨r1, r2, r3⟩ := hq1.grow (fun k c => c.2) ⟨va, vc, hs⟩ hx hA2 hG g (by rw [h1]; exact hb)
  have z3 := r2.size
  refine ⟨gs ++ [g], by rw [hq.lenQ]; simp, ⟨vL', t ++ [⟨va, vc, hs⟩], r1.mono (fun k c => ?_)⟩, (h.adds.trans hA).then r2 (fun k hk c => by omega), h2, h3⟩
  rcases c with c | c
  · exact ⟨c.1, by omega⟩
  · rcases r3 k c with c | c
    · exact ⟨c.1, by omega⟩
    · exact ⟨by omega, c.2⟩
set_option maxRecDepth 100000 in
set_option maxHeartbeats 2000000 in
theorem q_open {w : World} {OR : Nat → Prop} {rp : Nat} {D : dSt} {n0 : Nat} (hR : IsRO w OR rp D) (hk : DOk D n0) (hn0 : n0 ≤ 900) (fr ct ep : Nat) (h1 : 1 ≤ ct) (h2 : ct ≤ 17) (h3 : fr + ct ≤ D.size) (h4 : 1 ≤ ep) (h5 : ep ≤ 1000000000) (h6 : D.size ≤ 4096) (hon : D.left ≠ 0) :
    Calls Tryz.prog 21 #[Ptr rp, .int .i64 (fr : Int), .int .i64 (ct : Int), .int .i64 (ep : Int)] w (POpq w rp (opL fr ct ep (secOf D fr))) := by
  have HU := hid (fun (wr : World) (gs : List (List UInt8)) (h : OI w wr w.heap.size rp fr ct ep D gs) => show Calls Tryz.prog 35 #[Ptr w.heap.size] wr (Adding (.int .i64 (W.usedOf gs : Int)) wr) by
    obtain ⟨vL, t, hq⟩ := h.isq
    exact q_used hq h.ok (by show ct ≤ 1000; omega))
  have HGr := hid (fun (wr w1 : World) (gs : List (List UInt8)) (h : OI w wr w.heap.size rp fr ct ep D gs) (hA : Adds wr w1) => show Calls Tryz.prog 49 #[Ptr w.heap.size, .int .i64 (W.usedOf gs : Int)] w1 (PGrp w1 (grpR ep fr ct D (W.usedOf gs)) 0) by
    obtain ⟨vL, t, hq⟩ := h.isq
    exact q_group (hq.add hA) (hR.adds (h.adds.trans hA)) hk hn0 hon h5 h2 (by show fr ≤ 4096; omega) h3 (W.usedOf gs) h.ok.us)
  have HSt := hid (OI.start w rp fr ct ep D (by omega) (by omega) h5)
  have HCT := hid h2
  obtain ⟨hv, wv, hd, _, _, _⟩ := hR
  obtain ⟨g, cap, rfl, hcap, _, _, _⟩ := hd.heldAt
  have hs := hd.size
  have c0 : w.cell? ⟨rp, 0, none⟩ = some (.slice (some ⟨g, 0, none⟩) D.size.toNat cap) := cellOf hd.box 0
  have hq : ((D.size.toNat : Nat) : Int) = D.size := by omega
  generalize D.size.toNat = sn at *
  obtain ⟨frz, hfrz⟩ : ∃ frz : Int, frz = fr := ⟨_, rfl⟩
  obtain ⟨ctz, hctz⟩ : ∃ ctz : Int, ctz = ct := ⟨_, rfl⟩
  obtain ⟨epz, hepz⟩ : ∃ epz : Int, epz = ep := ⟨_, rfl⟩
  have d1 : decide (frz < 0) = false := by simp; omega
  have d2 : decide (ctz < 1) = false := by simp; omega
  have d3 : decide (10000 < ctz) = false := by simp; omega
  have d4 : decide ((sn : Int) - ctz < frz) = false := by simp; omega
  have d5 : decide (epz < 1) = false := by simp; omega
  have d6 : decide (1000000000 < epz) = false := by simp; omega
  have hc1 : 0 ≤ ctz ∧ ctz ≤ 4000 := by omega
  have hsn : (sn : Int) ≤ 4096 := by omega
  have hbl := fun w => build_rlog rp frz ctz epz w
  rw [← hfrz, ← hctz, ← hepz] at HSt
  rw [← hfrz, ← hctz, ← hepz]
  clear hfrz hctz hepz hd h1 h2 h3 h4 h5 h6 hon hk hn0 hs hq
  obtain ⟨q, hqs⟩ : ∃ q, q = w.heap.size := ⟨_, rfl⟩
  rw [← hqs] at HSt HU HGr
  go_enter Tryz.func21, Tryz.ntmps21
  go_wp2_with fail
  rw [← hqs]
  clear hqs
  go_loopw [] (fun wr => ∃ gs, Hid (OI w wr q rp fr ct ep D gs)) (fun wr => ct + 1 - lenQ wr q)
  case atStart => exact ⟨[], HSt.out⟩
  case round =>
    obtain ⟨gs, HI⟩ := hrel
    have hes := eq_nil_some
    have hen := eq_nil_none
    obtain ⟨vL, t, hisq⟩ := HI.out.isq
    obtain ⟨la, lc, hvL, _, _, _⟩ := own_cq hisq.rows
    obtain ⟨tn, htn⟩ : ∃ tn, tn = t.length := ⟨_, rfl⟩
    rw [← htn] at hvL
    subst hvL
    have HTN := hid htn
    have htn2 : tn ≤ ct := by rw [htn, hisq.len]; have h1 := len_used gs; have h2 : W.usedOf gs ≤ ct := HI.out.ok.us; show gs.length ≤ ct; omega
    have HQ := hid hisq
    clear htn
    obtain ⟨us, hus⟩ : ∃ us, us = W.usedOf gs := ⟨_, rfl⟩
    have hus2 : us ≤ ct := by rw [hus]; exact HI.out.ok.us
    have hlen : lenQ wr q ≤ us := by rw [hisq.lenQ, hus]; exact len_used gs
    have HUs := hid (show Calls Tryz.prog 35 #[Ptr q] wr (Adding (.int .i64 (us : Int)) wr) by rw [hus]; exact HU.out wr gs HI.out)
    have HGs := hid (fun w1 (hA : Adds wr w1) => show Calls Tryz.prog 49 #[Ptr q, .int .i64 (us : Int)] w1 (PGrp w1 (grpR ep fr ct D us) 0) by rw [hus]; exact HGr.out wr w1 gs HI.out hA)
    have HUS := hid hus
    clear hisq hus
    by_cases hg : grpR ep fr ct D us = []
    · have HEq := hid (HI.out.stop (by rw [← HUS.out]; exact hg))
      have HG0 := hid hg
      clear hg
      go_wp2_with (first
        | (go_at_call 35; refine HUs.out.mono ?_; rintro e w1 ⟨rfl, hA1⟩; have HA1 := hid hA1; clear hA1)
        | (go_at_call 49; refine (HGs.out w1 HA1.out).mono ?_; rintro e w2 ⟨v2, hs2, rfl, H2⟩; obtain rfl := H2.out.2.2.2 HG0.out))
      go_ret2
      refine ⟨q, rfl, .slice la tn lc, t, ⟨none, 0, []⟩, ?_, HI.out.adds.trans (HA1.out.trans H2.out.2.2.1)⟩
      have z := (HA1.out.trans H2.out.2.2.1).size
      rw [← HEq.out]
      exact (HQ.out.add (HA1.out.trans H2.out.2.2.1)).mono (fun k c => ⟨c.1, by omega⟩)
    · have HG0 := hid hg
      clear hg
      go_wp2_with (first
        | (go_at_call 35; refine HUs.out.mono ?_; rintro e w1 ⟨rfl, hA1⟩; have HA1 := hid hA1; clear hA1)
        | (go_at_call 49; refine (HGs.out w1 HA1.out).mono ?_; rintro e w2 ⟨v2, hs2, rfl, H2⟩
           obtain ⟨m, hm⟩ : ∃ m, m = hs2.length := ⟨_, rfl⟩
           have hm0 : 0 < m := by
             rw [hm]
             rcases Nat.eq_zero_or_pos hs2.length with c | c
             · exact absurd (by rw [← H2.out.2.1, List.eq_nil_of_length_eq_zero c]; rfl) HG0.out
             · exact c
           obtain ⟨vb, vc, hv2⟩ : ∃ vb vc, v2 = .slice (some ⟨vb, 0, none⟩) m vc := by
             rcases H2.out.1.rows.2 with ⟨_, c⟩ | ⟨g', cap', cur, c, _⟩
             · omega
             · exact ⟨g', cap', by rw [c, hm]⟩
           subst hv2
           have HM := hid hm
           have HA2 := hid (HA1.out.trans H2.out.2.2.1)
           have HB2 := hid (HA2.out.at' HQ.out.box id)
           have c5 : w2.cell? ⟨q, 5, none⟩ = some (.slice la tn lc) := by have c := cellOf HB2.out 5; simpa using c
           have c5' : (w2.alloc (.cells #[.slice (some ⟨vb, 0, none⟩) m vc] 61)).cell? ⟨q, 5, none⟩ = some (.slice la tn lc) := below_adds ((Touch.refl _ w2).alloc _) c5
           have HR2 := hid (show World.ownsRow _ 0 61 1 (.slice la tn lc) tn (t.map GV) by rw [HTN.out]; rw [HTN.out] at HQ; exact row_touch HQ.out.rows (HA2.out.alloc (.cells #[.slice (some ⟨vb, 0, none⟩) m vc] 61)) (fun _ _ => id))
           clear hm)
        | (at_builtin; refine append_bb1 rfl _ _ rfl (.slice la tn lc) tn (t.map GV) rfl HR2.out w2.heap.size (.slice (some ⟨vb, 0, none⟩) m vc) rfl (cellOf (heap_alloc_new w2 _) 0) rfl (by have := HCT.out; omega) ?_; intro v3 w3 G3
           obtain ⟨xa, xc, hv3, _, _, _⟩ := own_cq G3.1
           subst hv3
           have HG3 := hid G3
           have HB3 := hid (G3.touch.at' (((Touch.refl (fun _ => False) w2).alloc _).at' HB2.out id) HQ.out.apart)
           have c53 : w3.cell? ⟨q, 5, none⟩ = some (.slice la tn lc) := by have c := cellOf HB3.out 5; simpa using c
           have f53 : w3.frozen? ⟨q, 5, none⟩ = false := frozen_of_row w3 q 5 _ 67 HB3.out
           clear G3))
      obtain ⟨gs', hl', hOI⟩ := HI.out.next (vL' := .slice xa (tn + 1) xc) (by have := HCT.out; omega) (by rw [← HUS.out]; exact HG0.out) HQ.out HA2.out HM.out.symm (H2.out.1.low HA1.out.size) (by rw [← HUS.out]; exact H2.out.2.1) ((Touch.refl _ w2).alloc _) (by rw [← HTN.out]; exact HG3.out)
      have HOI := hid hOI
      have HL := hid (show gs'.length ≤ ct by obtain ⟨vL', t', hq'⟩ := hOI.isq; have h1 := hOI.ok.us; have h2 := len_used gs'; have h3 : W.usedOf gs' ≤ ct := h1; omega)
      have HL2 := hid (show lenQ (w3.setCell ⟨q, 5, none⟩ (.slice xa (tn + 1) xc)) q = gs'.length by obtain ⟨vL', t', hq'⟩ := hOI.isq; exact hq'.lenQ)
      clear hOI
      go_roundw
      case rel => exact ⟨gs', HOI.out⟩
      case measure => have := HL.out; have := HL2.out; omega
end Go.Proofs.YtllkplanjfnnmaaGreatDoor
