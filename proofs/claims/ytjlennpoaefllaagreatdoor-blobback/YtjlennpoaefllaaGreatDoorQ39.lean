/- Texts put together: KRead, KRead2, KFree, KBl, KWorks, KBody, KBk, KSr, KBb. -/
import Derived.Test.YtjlennpoaefllaaGreatDoorQ38
import Derived.Deep.CutBlock
import Derived.Deep.DeepCutAuto
import Derived.WalkMore
import Derived.Deep.LoopGhost
import Derived.OwnWalk
import Derived.Lib.SlBytesConst
import Derived.Test.YtjlennpoaefllaaGreatDoorQ27
/- A blob's pages are gone through. -/
namespace Go.Proofs.YtjlennpoaefllaaGreatDoor
open Go.RowKit

/-- What read leaves: numbers, bytes. -/
def PXr (w0 : World) (X : List (Nat × Obj)) (p dp : Nat) (D : dSt) (n kk : Nat) (R : List Int × List UInt8 × Nat × F.Po) (e : Ending) (w' : World) : Prop := ∃ v u Y, e = .returned (.tuple #[v, u, .int .i64 (R.2.2.1 : Int)]) ∧ Hid (LpX w0 w' Y p dp R.2.2.2 D n kk ∧ (∀ x ∈ X, x ∈ Y) ∧ AgX Y v R.1 ∧ BgX Y u R.2.1)
set_option maxRecDepth 100000 in
theorem PXr.no {w0 w' : World} {X : List (Nat × Obj)} {p dp : Nat} {s : F.Po} {D : dSt} {n kk z : Nat} {R : List Int × List UInt8 × Nat × F.Po} (hR : ([], [], z, s) = R) (h : LpX w0 w' X p dp s D n kk) : PXr w0 X p dp D n kk R (.returned (.tuple #[.slice none 0 0, .slice none 0 0, .int .i64 (z : Int)])) w' := by
  subst hR
  exact ⟨_, _, X, rfl, h, fun x hx => hx, AgX.nil _, BgX.nil _⟩
set_option maxRecDepth 100000 in
/-- A cell of at least four bytes; a number of four bytes; what is left. -/
theorem fixed4 {w : World} {p : Nat} {st : M.St} (h : RD w (Ptr p) st) : Calls Tryz.prog 111 #[Ptr p, .int .i64 4] w (fun e w' => e = .returned (.int .u64 ((M.fixedR 4 st).1 : Int)) ∧ Hid (RD w' (Ptr p) (M.fixedR 4 st).2 ∧ Touch (fun j => j = p) w w')) := by
  refine (fixed_any 4 h).mono ?_
  rintro e w' ⟨he, h1, h2⟩
  exact ⟨he, h1, h2.mono (fun j _ c => by unfold Own1 at c; unfold Ptr at c; cases c; rfl)⟩
set_option maxRecDepth 100000 in
theorem fix_short {x : List UInt8} (h : x.length < 4) : M.fixedR 4 ⟨0, x⟩ = (0, ⟨21, []⟩) := by
  unfold M.fixedR
  rw [show M.clamp 4 = 4 from rfl, M.takeR_short rfl h]
  rfl
set_option maxRecDepth 100000 in
theorem fix_err {e : Nat} (h : e ≠ 0) : M.fixedR 4 ⟨e, []⟩ = (0, ⟨e, []⟩) := by
  unfold M.fixedR
  rw [M.takeR_ref h]
  rfl
theorem fix_long {x : List UInt8} (h : 4 ≤ x.length) : M.fixedR 4 ⟨0, x⟩ = (M.unfix (x.take 4), ⟨0, x.drop 4⟩) := fixedR_ok rfl h
set_option maxRecDepth 100000 in
theorem unfix4 (x : List UInt8) : M.unfix (x.take 4) < 4294967296 := by
  have h1 := (M.fix_unfix (x.take 4).length (x.take 4) rfl).2
  have h2 : 256 ^ (x.take 4).length ≤ 256 ^ 4 := Nat.pow_le_pow_right (by decide) (by rw [List.length_take]; omega)
  omega
/-- What the reader tells of a cell: the next one's number, the size, the refusal, what is left. -/
structure Hd (k : Nat) (x : List UInt8) (sz0 n1 sz e2 lf : Nat) (st1 st2 : M.St) : Prop where
  f1 : M.fixedR 4 ⟨0, x⟩ = (n1, st1)
  f2 : k = 0 → M.fixedR 4 st1 = (sz, st2)
  f3 : k ≠ 0 → sz = sz0 ∧ st2 = st1
  e : st2.e = e2
  l : st2.l.length = lf
  ok : e2 = 0 ↔ K.ahead k ≤ x.length
  gn : e2 = 0 → n1 = K.nextOf x
  gs : e2 = 0 → sz = K.sizeOf k x sz0
  gl : e2 = 0 → lf + K.ahead k = x.length
  n9 : n1 < 4294967296
  s9 : sz0 < 4294967296 → sz < 4294967296
set_option maxRecDepth 100000 in
theorem hd_of (k : Nat) (x : List UInt8) (sz0 : Nat) : ∃ n1 sz e2 lf st1 st2, Hd k x sz0 n1 sz e2 lf st1 st2 := by
  by_cases h4 : 4 ≤ x.length
  · by_cases hk : k = 0
    · subst hk
      by_cases h8 : 8 ≤ x.length
      · refine ⟨_, _, _, _, _, ⟨0, (x.drop 4).drop 4⟩, fix_long h4, fun _ => fix_long (by rw [List.length_drop]; omega), fun c => absurd rfl c, rfl, rfl, ⟨fun _ => h8, fun _ => rfl⟩, fun _ => rfl, fun _ => rfl, fun _ => ?_, unfix4 _, fun _ => unfix4 _⟩
        show ((x.drop 4).drop 4).length + 8 = x.length
        rw [List.length_drop, List.length_drop]
        omega
      · exact ⟨_, _, _, _, _, ⟨21, []⟩, fix_long h4, fun _ => fix_short (by rw [List.length_drop]; omega), fun c => absurd rfl c, rfl, rfl, ⟨fun c => (by cases c), fun c => absurd c h8⟩, fun c => (by cases c), fun c => (by cases c), fun c => (by cases c), unfix4 _, fun _ => by decide⟩
    · have ha : K.ahead k = 4 := by unfold K.ahead; rw [if_neg hk]
      refine ⟨_, sz0, _, _, _, ⟨0, x.drop 4⟩, fix_long h4, fun c => absurd c hk, fun _ => ⟨rfl, rfl⟩, rfl, rfl, ⟨fun _ => by rw [ha]; exact h4, fun _ => rfl⟩, fun _ => rfl, fun _ => by unfold K.sizeOf; rw [if_neg hk], fun _ => ?_, unfix4 _, id⟩
      rw [ha]
      show (x.drop 4).length + 4 = x.length
      rw [List.length_drop]
      omega
  · have hs := fix_short (x := x) (by omega)
    by_cases hk : k = 0
    · subst hk
      exact ⟨_, _, _, _, _, ⟨21, []⟩, hs, fun _ => fix_err (by decide), fun c => absurd rfl c, rfl, rfl, ⟨fun c => (by cases c), fun c => by unfold K.ahead at c; simp at c; omega⟩, fun c => (by cases c), fun c => (by cases c), fun c => (by cases c), by decide, fun _ => by decide⟩
    · have ha : K.ahead k = 4 := by unfold K.ahead; rw [if_neg hk]
      exact ⟨_, sz0, _, _, _, ⟨21, []⟩, hs, fun c => absurd c hk, fun _ => ⟨rfl, rfl⟩, rfl, rfl, ⟨fun c => (by cases c), fun c => by rw [ha] at c; omega⟩, fun c => (by cases c), fun c => (by cases c), fun c => (by cases c), by decide, id⟩
set_option maxRecDepth 100000 in
theorem readN_bad {D : dSt} {r : Nat} {s : F.Po} {nos : List Int} {b : List UInt8} {size : Nat} {no : Int} (h : ¬ K.cellE s D no = 0) : K.readN D (r + 1) s nos b size no = ([], [], K.cellE s D no, F.getS s D no) := by unfold K.readN; rw [if_neg h]
set_option maxRecDepth 100000 in
theorem readN_form {D : dSt} {r : Nat} {s : F.Po} {nos : List Int} {b : List UInt8} {size : Nat} {no : Int} (h : K.cellE s D no = 0) (hb : K.isBad nos.length (K.cellB s D no) b size = true) : K.readN D (r + 1) s nos b size no = ([], [], 22, F.getS s D no) := by unfold K.readN; rw [if_pos h, if_pos hb]
set_option maxRecDepth 100000 in
theorem readN_last {D : dSt} {r : Nat} {s : F.Po} {nos : List Int} {b : List UInt8} {size : Nat} {no : Int} (h : K.cellE s D no = 0) (hb : K.isBad nos.length (K.cellB s D no) b size = false) (hl : nos.length + 1 = K.pages (K.sizeOf nos.length (K.cellB s D no) size)) : K.readN D (r + 1) s nos b size no = (nos ++ [no], b ++ (K.cellB s D no).drop (K.ahead nos.length), 0, F.getS s D no) := by unfold K.readN; rw [if_pos h, if_neg (by rw [hb]; decide), if_pos hl]
set_option maxRecDepth 100000 in
theorem readN_next {D : dSt} {r : Nat} {s : F.Po} {nos : List Int} {b : List UInt8} {size : Nat} {no : Int} (h : K.cellE s D no = 0) (hb : K.isBad nos.length (K.cellB s D no) b size = false) (hl : ¬ nos.length + 1 = K.pages (K.sizeOf nos.length (K.cellB s D no) size)) : K.readN D (r + 1) s nos b size no = K.readN D r (F.getS s D no) (nos ++ [no]) (b ++ (K.cellB s D no).drop (K.ahead nos.length)) (K.sizeOf nos.length (K.cellB s D no) size) (K.nextOf (K.cellB s D no) : Int) := by conv => lhs; unfold K.readN; rw [if_pos h, if_neg (by rw [hb]; decide), if_neg hl]
/-- How far the chain has been gone through. -/
structure Rw (nos : List Int) (b : List UInt8) (size : Nat) : Prop where
  b9 : b.length ≤ 4000
  s9 : size < 4294967296
  many : nos ≠ [] → size ≤ 4000 ∧ nos.length < K.pages size
set_option maxRecDepth 100000 in
theorem Rw.k {nos : List Int} {b : List UInt8} {size : Nat} (h : Rw nos b size) : nos.length ≤ 16 := by
  cases nos with
  | nil => exact Nat.zero_le _
  | cons z l =>
    obtain ⟨h1, h2⟩ := h.many (by simp)
    have := K.pages_le h1
    omega
set_option maxRecDepth 100000 in
theorem Rw.next {nos : List Int} {b x : List UInt8} {size : Nat} {no : Int} (h : Rw nos b size) (hb : K.isBad nos.length x b size = false) (hl : ¬ nos.length + 1 = K.pages (K.sizeOf nos.length x size)) : Rw (nos ++ [no]) (b ++ x.drop (K.ahead nos.length)) (K.sizeOf nos.length x size) := by
  obtain ⟨h1, h2, h3, h4⟩ := K.isBad_no hb
  have h5 := K.inP_le (nos.length + 1) (K.sizeOf nos.length x size)
  refine ⟨by omega, by omega, fun _ => ⟨h2, ?_⟩⟩
  rw [List.length_append, List.length_singleton]
  have hp := K.pages_pos (K.sizeOf nos.length x size)
  by_cases hk : nos = []
  · have hk0 : nos.length = 0 := by rw [hk]; rfl
    clear h1 h2 h3 h4 h5 hb h
    omega
  · have := (h.many hk).2
    have e : K.sizeOf nos.length x size = size := by
      unfold K.sizeOf
      rw [if_neg (fun c => hk (List.eq_nil_of_length_eq_zero c))]
    rw [e] at hl ⊢
    omega
end Go.Proofs.YtjlennpoaefllaaGreatDoor

/- A blob's pages are gone through: the walk. -/
namespace Go.Proofs.YtjlennpoaefllaaGreatDoor
open Go.RowKit

def lenK : Value → Nat
  | .slice _ n _ => n
  | _ => 0
set_option maxRecDepth 100000 in
theorem Rd.len {w0 w : World} {X : List (Nat × Obj)} {p dp : Nat} {s : F.Po} {D : dSt} {n k : Nat} {v u : Value} {zs : List Int} {bs : List UInt8} (h : Rd w0 w X p dp s D n k v zs u bs) : lenK v = zs.length := by
  obtain ⟨a, cap, e, _⟩ := own_cq h.rowN
  rw [e]
  rfl
/-- A cell lies as it lay, when numbers have grown. -/
theorem at_keep {w wr wA w3 : World} {X : List (Nat × Obj)} {B e m : Nat} {v : Value} {xs : List Value} {a : Option Addr} {x : List UInt8} (h : At w a x) (hr : wr.ownsRow B e 1 v m xs) (hX : ∀ y ∈ rowBk wr v, y ∈ X) (hap : ∀ b o, a = some ⟨b, o, none⟩ → ∀ y ∈ X, y.1 ≠ b) (hA : Adds w wA) (hT : Touch (fun j => v.ownBlock = some j) wA w3) : At w3 a x :=
  (h.adds hA).block (fun b o e hb => hT.block b hb (fun c => by
    obtain ⟨y, hy, e2⟩ := row_in hr c
    exact hap b o e y (hX y hy) e2))
set_option maxRecDepth 100000 in
theorem run_suf_some (ad : Addr) (xl cap ah : Nat) (hn : ah ≤ xl) : ∃ ad2, sufAt (some ad) cap ah = some ad2 ∧ ∀ w, (Instr.sliceAt 43 (.slice (some ad) xl cap) (some (.int .i64 (ah : Int))) none none).run Tryz.prog w = .ok (.slice (some ad2) (xl - ah) (cap - ah)) w := by
  have key : ∃ ad2, sufAt (some ad) cap ah = some ad2 := by
    unfold sufAt
    split
    · exact ⟨_, rfl⟩
    · exact ⟨_, rfl⟩
  obtain ⟨ad2, h⟩ := key
  exact ⟨ad2, h, fun w => by rw [run_suf _ _ _ _ hn, h]⟩
set_option maxRecDepth 100000 in
theorem isBad_no2 {k : Nat} {x b : List UInt8} {sz0 n1 sz e2 lf : Nat} {st1 st2 : M.St} (h : Hd k x sz0 n1 sz e2 lf st1 st2) (he : e2 ≠ 0) : K.isBad k x b sz0 = true := by
  have : x.length < K.ahead k := by
    rcases Nat.lt_or_ge x.length (K.ahead k) with c | c
    · exact c
    · exact absurd (h.ok.2 c) he
  unfold K.isBad
  simp [this]
set_option maxRecDepth 100000 in
theorem isBad_hd {k k1 bl sl : Nat} {x b : List UInt8} {sz0 n1 sz lf : Nat} {st1 st2 : M.St} (h : Hd k x sz0 n1 sz 0 lf st1 st2) (hk : k1 = k + 1) (hb : bl = b.length) (hs : sl = x.length - K.ahead k) : K.isBad k x b sz0 = (decide (4000 < sz) || decide (bl + sl ≠ K.inP k1 sz) || (decide (k1 = K.pages sz) != decide (n1 = 0))) := by
  have h1 := h.ok.1 rfl
  have e1 : decide (x.length < K.ahead k) = false := by simp; omega
  unfold K.isBad
  rw [e1, ← h.gs rfl, ← h.gn rfl, List.length_append, List.length_drop, ← hb, ← hs, ← hk, Bool.false_or]
set_option maxRecDepth 100000 in
set_option maxHeartbeats 4000000 in
theorem xread_any {w0 w : World} {X : List (Nat × Obj)} {p dp : Nat} {s : F.Po} {D : dSt} {n kk sp : Nat} (h : LpX w0 w X p dp s D n kk) (hX : (sp, SBox p) ∈ X) (hn : n + 20 ≤ 1000000) (hk9 : kk ≤ 900) (first : Int) :
    Calls Tryz.prog 69 #[Ptr sp, .int .i64 first] w (PXr w0 X p dp D (n + 20) kk (K.readB D s first)) := by
  obtain ⟨R, hR⟩ : ∃ R, R = K.readB D s first := ⟨_, rfl⟩
  rw [← hR]
  have hc := h.pok.cnt
  have HMd := hid (xmade_any (h.spc hX) hc.1 hc.2.1)
  have hRd : Rd w0 w X p dp s D n kk (.slice none 0 0) [] (.slice none 0 0) [] := ⟨h, World.ownsRow_nil _ _ _ _, World.ownsRow_nil _ _ _ _, fun _ _ e => (by cases e), fun _ _ e => (by cases e)⟩
  have H0 := hid (And.intro hRd (And.intro hR (And.intro hX (And.intro hn hk9))))
  clear h hX hn hk9 hc hR hRd
  go_enter Tryz.func69, Tryz.ntmps69
  go_wp2_with fail
  go_step3
  go_wp2_with (go_at_call 66; refine HMd.out.mono ?_; rintro e _ ⟨rfl, hw⟩; rw [hw]; clear hw)
  go_step3
  go_wp2_with fail
  go_loopw [7, 8, 9, 10] (fun v u sv nv wr => ∃ (s' : F.Po) (nos : List Int) (b : List UInt8) (sz0 : Nat) (no : Int), sv = .int .u64 (sz0 : Int) ∧ nv = .int .i64 no ∧ Hid (Rd w0 wr X p dp s' D (n + nos.length) kk v nos u b ∧ K.readN D (18 - nos.length) s' nos b sz0 no = R ∧ Rw nos b sz0)) (fun v _ _ _ _ => 20 - lenK v)
  case atStart => exact ⟨s, [], [], 0, first, rfl, rfl, H0.out.1, H0.out.2.1.symm, ⟨Nat.zero_le _, by decide, fun c => absurd rfl c⟩⟩
  case round =>
    obtain ⟨s', nos, b, sz0, no, rfl, rfl, HI⟩ := hrel
    obtain ⟨k, hk⟩ : ∃ k, k = nos.length := ⟨_, rfl⟩
    have hk16 := HI.out.2.2.k
    have HR := HI.out.2.1
    rw [show 18 - nos.length = (18 - (nos.length + 1)) + 1 by omega] at HR
    have HC := xcell_any HI.out.1.lpx (by have := H0.out.2.2.2.1; omega) H0.out.2.2.2.2 no
    have HSp := hid (spool_any (HI.out.1.x.spc H0.out.2.2.1).box)
    obtain ⟨s2, hs2⟩ : ∃ s2, s2 = F.getS s' D no := ⟨_, rfl⟩
    obtain ⟨x, hx⟩ : ∃ x, x = K.cellB s' D no := ⟨_, rfl⟩
    by_cases hz : K.cellE s' D no = 0
    · rw [hz, ← hs2, ← hx] at HC
      have HC := hid HC
      have hxl := K.cell_len (s := s') (D := D) (no := no)
      rw [← hx] at hxl
      obtain ⟨n1, sz, e2, lf, st1, st2, hd⟩ := hd_of k x sz0
      have HD := hid hd
      obtain ⟨xl, hxl'⟩ : ∃ xl, xl = x.length := ⟨_, rfl⟩
      obtain ⟨k1, hk1⟩ : ∃ k1, k1 = k + 1 := ⟨_, rfl⟩
      obtain ⟨bl, hbl⟩ : ∃ bl, bl = b.length := ⟨_, rfl⟩
      have HK := hid (And.intro hk (And.intro hk1 (And.intro hxl' (And.intro hbl hxl))))
      have hn1 : (n1 : Int) < 4294967296 := by have := hd.n9; omega
      have hs9 : (sz : Int) < 4294967296 := by have := hd.s9 HI.out.2.2.s9; omega
      have hk19 : k1 ≤ 17 := by omega
      have HZ := hid (And.intro hz (And.intro hs2 hx))
      have HRR := hid HR
      have HWr := hid HI.out.2.2
      have HRead := hid (fun (w' : World) (a : Option Addr) (cap : Nat) (h1 : At w' a x) (h2 : a = none → cap = 0) => show Calls Tryz.prog 110 #[.slice a xl cap] w' (PRead w' x) by rw [HK.out.2.2.1]; exact read_any a x cap w' (by have := HK.out.2.2.2.2; omega) h2 h1)
      have hk9' : k ≤ 16 := by omega
      clear hz hs2 hx hd hxl hxl' hbl HR hk hk1
      by_cases hk0 : k = 0
      · have hkb : ((k1 : Int) == 1) = true := by have := HK.out.2.1; simp; omega
        have HF2 := hid (HD.out.f2 hk0)
        have HKz := hid (Or.inl (b := k ≠ 0) hk0)
        clear hk0
        go_upto_region 14 with (first
          | (go_at_call 15; refine HSp.out.mono ?_; rintro e _ ⟨rfl, hw⟩; rw [hw]; clear hw)
          | (go_at_call 109; refine HC.out.mono ?_; rintro e w1 ⟨a, cap, rfl, H1⟩; rw [← HK.out.2.2.1]
             have HR1 := hid (HI.out.1.next H1.out.2.2.2.1)
             have HR2 := hid (HR1.out.adds (show Adds w1 (w1.alloc (.cells #[.int .i64 no] 3)) from (Touch.refl _ w1).alloc _)))
          | (at_builtin; refine append_ki rfl _ _ rfl w0.heap.size _ k (I nos) rfl (by rw [HK.out.1]; exact HR2.out.rowN) w1.heap.size no rfl (cellOf (heap_alloc_new w1 _) 0) (by omega) HR2.out.x.e.adds.size ?_; intro v' w3 hr3 hT3 ho3
             obtain ⟨va3, vc3, hv3, _⟩ := own_cq hr3
             have H3 := hid (HR2.out.num HK.out.1 hr3 hT3 ho3)
             have HA3 := hid (at_keep H1.out.1 HI.out.1.rowN (fun y hy => List.mem_append_left _ hy) H1.out.2.2.2.2 ((Touch.refl _ w1).alloc _) hT3)
             rw [← HK.out.2.1] at hv3
             subst hv3
             clear hr3 hT3 ho3)
          | (go_at_call 110; refine (HRead.out w3 a cap HA3.out H1.out.2.2.1).mono ?_; rintro e w4 ⟨rp, rfl, hrp, hRD, hA4⟩; have H4 := hid (And.intro hrp (And.intro hRD hA4)); clear hrp hRD hA4)
          | (go_at_call 111; refine (fixed4 (p := rp) H5.out.1).mono ?_; rintro e w6 ⟨rfl, H6⟩; rw [HF2.out] at H6 ⊢
             have HT := hid (show RD w6 (Ptr rp) st2 ∧ Adds w3 w6 from ⟨H6.out.1, ((H4.out.2.2.then H5.out.2 (fun j hj c => by have := H4.out.1; omega)).then H6.out.2 (fun j hj c => by have := H4.out.1; omega))⟩))
          | (go_at_call 111; refine (fixed4 (p := rp) H4.out.2.1).mono ?_; rintro e w5 ⟨rfl, H5⟩; rw [HD.out.f1] at H5 ⊢))
        have HEr := hid (show Calls Tryz.prog 112 #[.pointer (some ⟨rp, 0, none⟩)] w6 (Tells (.int .i64 (e2 : Int)) w6) by have q := err_any HT.out.1; rw [HD.out.e] at q; exact q)
        have HR6 := hid (H3.out.adds HT.out.2)
        by_cases he : e2 = 0
        · subst he
          have hok := HD.out.ok.1 rfl
          have hgl := HD.out.gl rfl
          have hah : 4 ≤ K.ahead k := by unfold K.ahead; split <;> omega
          obtain ⟨ah, hah'⟩ : ∃ ah, ah = K.ahead k := ⟨_, rfl⟩
          obtain ⟨sl, hsl⟩ : ∃ sl, sl = x.length - K.ahead k := ⟨_, rfl⟩
          have HBad := hid (isBad_hd HD.out HK.out.2.1 HK.out.2.2.2.1 hsl)
          by_cases hbig : 4000 < sz
          · have hbz : (4000 : Int) < (sz : Int) := by omega
            have HR := hid (show ([], [], 22, s2) = R by
              have q := HRR.out
              rw [readN_form HZ.out.1 (by rw [← HZ.out.2.2, ← HK.out.1, HBad.out]; simp [hbig]), ← HZ.out.2.1] at q
              exact q)
            clear hbig hok hgl hah hah' hsl
            go_wp2_with (go_at_call 112; refine HEr.out.mono ?_; rintro e _ ⟨rfl, hw⟩; rw [hw]; clear hw)
            (try rw [Exit.noGoto_ret])
            go_ret3
            exact PXr.no HR.out (HR6.out.x.le (by have := HK.out.1; omega))
          · have hbz : decide ((4000 : Int) < (sz : Int)) = false := by simp; omega
            obtain ⟨ab, ao, rfl⟩ := HA3.out.ad (by omega)
            obtain ⟨ad2, hsuf, hcut⟩ := run_suf_some ⟨ab, ao, none⟩ xl cap ah (by have := HK.out.2.2.1; omega)
            obtain ⟨cr, hcr⟩ : ∃ cr, cr = cap - ah := ⟨_, rfl⟩
            have hsl2 : xl - ah = sl := by rw [hsl, hah', HK.out.2.2.1]
            rw [hsl2, ← hcr] at hcut
            have hxz : (xl : Int) ≤ 242 := by have := HK.out.2.2.1; have := HK.out.2.2.2.2; omega
            have hlz : (lf : Int) ≤ 242 := by have := HK.out.2.2.1; omega
            have hsub : (xl : Int) - (lf : Int) = (ah : Int) := by have := HK.out.2.2.1; omega
            have HLf := hid (show Calls Tryz.prog 113 #[.pointer (some ⟨rp, 0, none⟩)] w6 (Tells (.int .i64 (lf : Int)) w6) by have q := left_any HT.out.1; rw [HD.out.l] at q; exact q)
            have HAx := hid (show At w6 (some ad2) (x.drop ah) by
              have q := (HA3.out.adds HT.out.2).sufAt cap ah H1.out.2.1
              rw [hsuf] at q
              exact q)
            have HDl := hid (show (x.drop ah).length = sl by rw [List.length_drop, hsl, hah'])
            obtain ⟨bl1, hbl1⟩ : ∃ bl1, bl1 = bl + sl := ⟨_, rfl⟩
            obtain ⟨ip, hip⟩ : ∃ ip, ip = K.inP k1 sz := ⟨_, rfl⟩
            obtain ⟨pg, hpg⟩ : ∃ pg, pg = K.pages sz := ⟨_, rfl⟩
            have HPg := hid (fun w' => show Calls Tryz.prog 22 #[.int .i64 (sz : Int)] w' (Tells (.int .i64 (pg : Int)) w') by rw [hpg]; exact xpages_any w' sz (by omega))
            have HIp := hid (fun w' => show Calls Tryz.prog 107 #[.int .i64 (k1 : Int), .int .i64 (sz : Int)] w' (Tells (.int .i64 (ip : Int)) w') by rw [hip]; exact xinp_any w' k1 sz (by omega) (by omega))
            have HBd2 := hid (show K.isBad k x b sz0 = (decide (bl1 ≠ ip) || (decide (k1 = pg) != decide (n1 = 0))) by rw [HBad.out, ← hbl1, ← hip, ← hpg, decide_eq_false hbig, Bool.false_or])
            have HBl := hid (And.intro hbl1 (And.intro hah' hpg))
            have hb9 : bl ≤ 4000 := by have := HWr.out.b9; have := HK.out.2.2.2.1; omega
            have hx9 : sl ≤ 242 := by have := HK.out.2.2.2.2; omega
            clear hbig hok hgl hah hah' hsl hsl2 hcr hip hpg hbl1 hsuf
            by_cases c1 : bl1 = ip
            · have d1 : ((bl1 : Int) != (ip : Int)) = false := by simp; omega
              by_cases c2 : k1 = pg
              · have d2 : ((k1 : Int) == (pg : Int)) = true := by simp; omega
                by_cases c3 : n1 = 0
                · have d3 : ((n1 : Int) == 0) = true := by simp; omega
                  have HR := hid (show (nos ++ [no], b ++ x.drop ah, 0, s2) = R by
                    have q := HRR.out
                    rw [readN_last HZ.out.1 (by rw [← HZ.out.2.2, ← HK.out.1, HBd2.out]; simp [c1, c2, c3]) (by rw [← HZ.out.2.2, ← HK.out.1, ← HD.out.gs rfl, ← HK.out.2.1, ← HBl.out.2.2]; exact c2), ← HZ.out.2.1, ← HZ.out.2.2, ← HK.out.1, ← HBl.out.2.1] at q
                    exact q)
                  clear c1 c2 c3
                  go_wp2_with (first
                    | (go_at_call 112; refine HEr.out.mono ?_; rintro e _ ⟨rfl, hw⟩; rw [hw]; clear hw)
                    | (go_at_call 113; refine HLf.out.mono ?_; rintro e _ ⟨rfl, hw⟩; rw [hw]; clear hw)
                    | (at_builtin; refine append_kb rfl _ _ rfl w0.heap.size _ bl (S b) rfl (by rw [HK.out.2.2.2.1]; exact HR6.out.rowB) ad2 (x.drop ah) sl cr HDl.out rfl HAx.out (by omega) HR6.out.x.e.adds.size ?_; intro u' w7 hr7 hT7 ho7
                       obtain ⟨ua, uc, hu, _⟩ := own_cq hr7
                       rw [← HBl.out.1] at hu
                       have H7 := hid (HR6.out.byt HK.out.2.2.2.1 HDl.out.symm hr7 hT7 ho7)
                       subst hu
                       clear hr7 hT7 ho7)
                    | (go_at_call 22; refine (HPg.out _).mono ?_; rintro e _ ⟨rfl, hw⟩; rw [hw]; clear hw)
                    | (go_at_call 107; refine (HIp.out _).mono ?_; rintro e _ ⟨rfl, hw⟩; rw [hw]; clear hw))
                  (try rw [Exit.noGoto_ret])
                  go_ret3
                  refine ⟨_, _, _, by rw [← HR.out]; rfl, ?_, fun y hy => List.mem_append_right _ (List.mem_append_right _ hy), by rw [← HR.out]; exact H7.out.ag, by rw [← HR.out]; exact H7.out.bg⟩
                  rw [← HR.out]
                  exact H7.out.lpx.le (by have := HK.out.1; omega)
                · have d3 : ((n1 : Int) == 0) = false := by simp; omega
                  have HR := hid (show ([], [], 22, s2) = R by
                    have q := HRR.out
                    rw [readN_form HZ.out.1 (by rw [← HZ.out.2.2, ← HK.out.1, HBd2.out]; simp [c1, c2, c3]), ← HZ.out.2.1] at q
                    exact q)
                  clear c1 c2 c3
                  go_wp2_with (first
                    | (go_at_call 112; refine HEr.out.mono ?_; rintro e _ ⟨rfl, hw⟩; rw [hw]; clear hw)
                    | (go_at_call 113; refine HLf.out.mono ?_; rintro e _ ⟨rfl, hw⟩; rw [hw]; clear hw)
                    | (at_builtin; refine append_kb rfl _ _ rfl w0.heap.size _ bl (S b) rfl (by rw [HK.out.2.2.2.1]; exact HR6.out.rowB) ad2 (x.drop ah) sl cr HDl.out rfl HAx.out (by omega) HR6.out.x.e.adds.size ?_; intro u' w7 hr7 hT7 ho7
                       obtain ⟨ua, uc, hu, _⟩ := own_cq hr7
                       rw [← HBl.out.1] at hu
                       have H7 := hid (HR6.out.byt HK.out.2.2.2.1 HDl.out.symm hr7 hT7 ho7)
                       subst hu
                       clear hr7 hT7 ho7)
                    | (go_at_call 22; refine (HPg.out _).mono ?_; rintro e _ ⟨rfl, hw⟩; rw [hw]; clear hw)
                    | (go_at_call 107; refine (HIp.out _).mono ?_; rintro e _ ⟨rfl, hw⟩; rw [hw]; clear hw))
                  (try rw [Exit.noGoto_ret])
                  go_ret3
                  exact PXr.no HR.out (H7.out.x.le (by have := HK.out.1; omega))
              · have d2 : ((k1 : Int) == (pg : Int)) = false := by simp; omega
                by_cases c3 : n1 = 0
                · have d3 : ((n1 : Int) == 0) = true := by simp; omega
                  have HR := hid (show ([], [], 22, s2) = R by
                    have q := HRR.out
                    rw [readN_form HZ.out.1 (by rw [← HZ.out.2.2, ← HK.out.1, HBd2.out]; simp [c1, c2, c3]), ← HZ.out.2.1] at q
                    exact q)
                  clear c1 c2 c3
                  go_wp2_with (first
                    | (go_at_call 112; refine HEr.out.mono ?_; rintro e _ ⟨rfl, hw⟩; rw [hw]; clear hw)
                    | (go_at_call 113; refine HLf.out.mono ?_; rintro e _ ⟨rfl, hw⟩; rw [hw]; clear hw)
                    | (at_builtin; refine append_kb rfl _ _ rfl w0.heap.size _ bl (S b) rfl (by rw [HK.out.2.2.2.1]; exact HR6.out.rowB) ad2 (x.drop ah) sl cr HDl.out rfl HAx.out (by omega) HR6.out.x.e.adds.size ?_; intro u' w7 hr7 hT7 ho7
                       obtain ⟨ua, uc, hu, _⟩ := own_cq hr7
                       rw [← HBl.out.1] at hu
                       have H7 := hid (HR6.out.byt HK.out.2.2.2.1 HDl.out.symm hr7 hT7 ho7)
                       subst hu
                       clear hr7 hT7 ho7)
                    | (go_at_call 22; refine (HPg.out _).mono ?_; rintro e _ ⟨rfl, hw⟩; rw [hw]; clear hw)
                    | (go_at_call 107; refine (HIp.out _).mono ?_; rintro e _ ⟨rfl, hw⟩; rw [hw]; clear hw))
                  (try rw [Exit.noGoto_ret])
                  go_ret3
                  exact PXr.no HR.out (H7.out.x.le (by have := HK.out.1; omega))
                · have d3 : ((n1 : Int) == 0) = false := by simp; omega
                  have HBf := hid (show K.isBad nos.length (K.cellB s' D no) b sz0 = false by rw [← HZ.out.2.2, ← HK.out.1, HBd2.out]; simp [c1, c2, c3])
                  have HNl := hid (show ¬ nos.length + 1 = K.pages (K.sizeOf nos.length (K.cellB s' D no) sz0) by rw [← HZ.out.2.2, ← HK.out.1, ← HD.out.gs rfl, ← HK.out.2.1, ← HBl.out.2.2]; exact c2)
                  have HR := hid (show K.readN D (18 - (nos.length + 1)) s2 (nos ++ [no]) (b ++ x.drop ah) sz (n1 : Int) = R by
                    have q := HRR.out
                    rw [readN_next HZ.out.1 HBf.out HNl.out, ← HZ.out.2.1, ← HZ.out.2.2, ← HK.out.1, ← HD.out.gs rfl, ← HD.out.gn rfl, ← HBl.out.2.1] at q
                    rw [← HK.out.1]
                    exact q)
                  have HWn := hid (show Rw (nos ++ [no]) (b ++ x.drop ah) sz by
                    have q := HWr.out.next (no := no) HBf.out HNl.out
                    rw [← HZ.out.2.2, ← HK.out.1, ← HD.out.gs rfl, ← HBl.out.2.1] at q
                    exact q)
                  clear c1 c2 c3
                  go_wp2_with (first
                    | (go_at_call 112; refine HEr.out.mono ?_; rintro e _ ⟨rfl, hw⟩; rw [hw]; clear hw)
                    | (go_at_call 113; refine HLf.out.mono ?_; rintro e _ ⟨rfl, hw⟩; rw [hw]; clear hw)
                    | (at_builtin; refine append_kb rfl _ _ rfl w0.heap.size _ bl (S b) rfl (by rw [HK.out.2.2.2.1]; exact HR6.out.rowB) ad2 (x.drop ah) sl cr HDl.out rfl HAx.out (by omega) HR6.out.x.e.adds.size ?_; intro u' w7 hr7 hT7 ho7
                       obtain ⟨ua, uc, hu, _⟩ := own_cq hr7
                       rw [← HBl.out.1] at hu
                       have H7 := hid (HR6.out.byt HK.out.2.2.2.1 HDl.out.symm hr7 hT7 ho7)
                       subst hu
                       clear hr7 hT7 ho7)
                    | (go_at_call 22; refine (HPg.out _).mono ?_; rintro e _ ⟨rfl, hw⟩; rw [hw]; clear hw)
                    | (go_at_call 107; refine (HIp.out _).mono ?_; rintro e _ ⟨rfl, hw⟩; rw [hw]; clear hw))
                  go_roundw
                  case rel => exact ⟨s2, nos ++ [no], b ++ x.drop ah, sz, (n1 : Int), rfl, rfl, by rw [List.length_append, List.length_singleton, ← Nat.add_assoc]; exact H7.out, by rw [List.length_append, List.length_singleton]; exact HR.out, HWn.out⟩
                  case measure => have q := HI.out.1.len; have := HK.out.1; have := HK.out.2.1; simp only [lenK] at *; omega
            · have d1 : ((bl1 : Int) != (ip : Int)) = true := by simp; omega
              have HR := hid (show ([], [], 22, s2) = R by
                have q := HRR.out
                rw [readN_form HZ.out.1 (by rw [← HZ.out.2.2, ← HK.out.1, HBd2.out]; simp [c1]), ← HZ.out.2.1] at q
                exact q)
              clear c1
              go_wp2_with (first
                | (go_at_call 112; refine HEr.out.mono ?_; rintro e _ ⟨rfl, hw⟩; rw [hw]; clear hw)
                | (go_at_call 113; refine HLf.out.mono ?_; rintro e _ ⟨rfl, hw⟩; rw [hw]; clear hw)
                | (at_builtin; refine append_kb rfl _ _ rfl w0.heap.size _ bl (S b) rfl (by rw [HK.out.2.2.2.1]; exact HR6.out.rowB) ad2 (x.drop ah) sl cr HDl.out rfl HAx.out (by omega) HR6.out.x.e.adds.size ?_; intro u' w7 hr7 hT7 ho7
                   obtain ⟨ua, uc, hu, _⟩ := own_cq hr7
                   rw [← HBl.out.1] at hu
                   have H7 := hid (HR6.out.byt HK.out.2.2.2.1 HDl.out.symm hr7 hT7 ho7)
                   subst hu
                   clear hr7 hT7 ho7)
                | (go_at_call 22; refine (HPg.out _).mono ?_; rintro e _ ⟨rfl, hw⟩; rw [hw]; clear hw)
                | (go_at_call 107; refine (HIp.out _).mono ?_; rintro e _ ⟨rfl, hw⟩; rw [hw]; clear hw))
              (try rw [Exit.noGoto_ret])
              go_ret3
              exact PXr.no HR.out (H7.out.x.le (by have := HK.out.1; omega))
        · have HR := hid (show ([], [], 22, s2) = R by
            have q := HRR.out
            rw [readN_form HZ.out.1 (by rw [← HZ.out.2.2, ← HK.out.1]; exact isBad_no2 HD.out he), ← HZ.out.2.1] at q
            exact q)
          have he1 : ((e2 : Int) != 0) = true := by simp; omega
          have he2 : ¬ (e2 : Int) = 0 := by omega
          clear he
          go_wp2_with (go_at_call 112; refine HEr.out.mono ?_; rintro e _ ⟨rfl, hw⟩; rw [hw]; clear hw)
          (try rw [Exit.noGoto_ret])
          go_ret3
          exact PXr.no HR.out (HR6.out.x.le (by have := HK.out.1; omega))
      · have hkb : ((k1 : Int) == 1) = false := by have := HK.out.2.1; simp; omega
        have HF3 := hid (HD.out.f3 hk0)
        have HKz := hid (Or.inr (a := k = 0) hk0)
        clear hk0
        go_upto_region 14 with (first
          | (go_at_call 15; refine HSp.out.mono ?_; rintro e _ ⟨rfl, hw⟩; rw [hw]; clear hw)
          | (go_at_call 109; refine HC.out.mono ?_; rintro e w1 ⟨a, cap, rfl, H1⟩; rw [← HK.out.2.2.1]
             have HR1 := hid (HI.out.1.next H1.out.2.2.2.1)
             have HR2 := hid (HR1.out.adds (show Adds w1 (w1.alloc (.cells #[.int .i64 no] 3)) from (Touch.refl _ w1).alloc _)))
          | (at_builtin; refine append_ki rfl _ _ rfl w0.heap.size _ k (I nos) rfl (by rw [HK.out.1]; exact HR2.out.rowN) w1.heap.size no rfl (cellOf (heap_alloc_new w1 _) 0) (by omega) HR2.out.x.e.adds.size ?_; intro v' w3 hr3 hT3 ho3
             obtain ⟨va3, vc3, hv3, _⟩ := own_cq hr3
             have H3 := hid (HR2.out.num HK.out.1 hr3 hT3 ho3)
             have HA3 := hid (at_keep H1.out.1 HI.out.1.rowN (fun y hy => List.mem_append_left _ hy) H1.out.2.2.2.2 ((Touch.refl _ w1).alloc _) hT3)
             rw [← HK.out.2.1] at hv3
             subst hv3
             clear hr3 hT3 ho3)
          | (go_at_call 110; refine (HRead.out w3 a cap HA3.out H1.out.2.2.1).mono ?_; rintro e w4 ⟨rp, rfl, hrp, hRD, hA4⟩; have H4 := hid (And.intro hrp (And.intro hRD hA4)); clear hrp hRD hA4)
          | (go_at_call 111; refine (fixed4 (p := rp) H4.out.2.1).mono ?_; rintro e w6 ⟨rfl, H6⟩; rw [HD.out.f1] at H6 ⊢
             have HT := hid (show RD w6 (Ptr rp) st2 ∧ Adds w3 w6 from ⟨by rw [HF3.out.2]; exact H6.out.1, (H4.out.2.2.then H6.out.2 (fun j hj c => by have := H4.out.1; omega))⟩)))
        obtain rfl : sz0 = sz := HF3.out.1.symm
        have HEr := hid (show Calls Tryz.prog 112 #[.pointer (some ⟨rp, 0, none⟩)] w6 (Tells (.int .i64 (e2 : Int)) w6) by have q := err_any HT.out.1; rw [HD.out.e] at q; exact q)
        have HR6 := hid (H3.out.adds HT.out.2)
        by_cases he : e2 = 0
        · subst he
          have hok := HD.out.ok.1 rfl
          have hgl := HD.out.gl rfl
          have hah : 4 ≤ K.ahead k := by unfold K.ahead; split <;> omega
          obtain ⟨ah, hah'⟩ : ∃ ah, ah = K.ahead k := ⟨_, rfl⟩
          obtain ⟨sl, hsl⟩ : ∃ sl, sl = x.length - K.ahead k := ⟨_, rfl⟩
          have HBad := hid (isBad_hd HD.out HK.out.2.1 HK.out.2.2.2.1 hsl)
          by_cases hbig : 4000 < sz0
          · have hbz : (4000 : Int) < (sz0 : Int) := by omega
            have HR := hid (show ([], [], 22, s2) = R by
              have q := HRR.out
              rw [readN_form HZ.out.1 (by rw [← HZ.out.2.2, ← HK.out.1, HBad.out]; simp [hbig]), ← HZ.out.2.1] at q
              exact q)
            clear hbig hok hgl hah hah' hsl
            go_wp2_with (go_at_call 112; refine HEr.out.mono ?_; rintro e _ ⟨rfl, hw⟩; rw [hw]; clear hw)
            (try rw [Exit.noGoto_ret])
            go_ret3
            exact PXr.no HR.out (HR6.out.x.le (by have := HK.out.1; omega))
          · have hbz : decide ((4000 : Int) < (sz0 : Int)) = false := by simp; omega
            obtain ⟨ab, ao, rfl⟩ := HA3.out.ad (by omega)
            obtain ⟨ad2, hsuf, hcut⟩ := run_suf_some ⟨ab, ao, none⟩ xl cap ah (by have := HK.out.2.2.1; omega)
            obtain ⟨cr, hcr⟩ : ∃ cr, cr = cap - ah := ⟨_, rfl⟩
            have hsl2 : xl - ah = sl := by rw [hsl, hah', HK.out.2.2.1]
            rw [hsl2, ← hcr] at hcut
            have hxz : (xl : Int) ≤ 242 := by have := HK.out.2.2.1; have := HK.out.2.2.2.2; omega
            have hlz : (lf : Int) ≤ 242 := by have := HK.out.2.2.1; omega
            have hsub : (xl : Int) - (lf : Int) = (ah : Int) := by have := HK.out.2.2.1; omega
            have HLf := hid (show Calls Tryz.prog 113 #[.pointer (some ⟨rp, 0, none⟩)] w6 (Tells (.int .i64 (lf : Int)) w6) by have q := left_any HT.out.1; rw [HD.out.l] at q; exact q)
            have HAx := hid (show At w6 (some ad2) (x.drop ah) by
              have q := (HA3.out.adds HT.out.2).sufAt cap ah H1.out.2.1
              rw [hsuf] at q
              exact q)
            have HDl := hid (show (x.drop ah).length = sl by rw [List.length_drop, hsl, hah'])
            obtain ⟨bl1, hbl1⟩ : ∃ bl1, bl1 = bl + sl := ⟨_, rfl⟩
            obtain ⟨ip, hip⟩ : ∃ ip, ip = K.inP k1 sz0 := ⟨_, rfl⟩
            obtain ⟨pg, hpg⟩ : ∃ pg, pg = K.pages sz0 := ⟨_, rfl⟩
            have HPg := hid (fun w' => show Calls Tryz.prog 22 #[.int .i64 (sz0 : Int)] w' (Tells (.int .i64 (pg : Int)) w') by rw [hpg]; exact xpages_any w' sz0 (by omega))
            have HIp := hid (fun w' => show Calls Tryz.prog 107 #[.int .i64 (k1 : Int), .int .i64 (sz0 : Int)] w' (Tells (.int .i64 (ip : Int)) w') by rw [hip]; exact xinp_any w' k1 sz0 (by omega) (by omega))
            have HBd2 := hid (show K.isBad k x b sz0 = (decide (bl1 ≠ ip) || (decide (k1 = pg) != decide (n1 = 0))) by rw [HBad.out, ← hbl1, ← hip, ← hpg, decide_eq_false hbig, Bool.false_or])
            have HBl := hid (And.intro hbl1 (And.intro hah' hpg))
            have hb9 : bl ≤ 4000 := by have := HWr.out.b9; have := HK.out.2.2.2.1; omega
            have hx9 : sl ≤ 242 := by have := HK.out.2.2.2.2; omega
            clear hbig hok hgl hah hah' hsl hsl2 hcr hip hpg hbl1 hsuf
            by_cases c1 : bl1 = ip
            · have d1 : ((bl1 : Int) != (ip : Int)) = false := by simp; omega
              by_cases c2 : k1 = pg
              · have d2 : ((k1 : Int) == (pg : Int)) = true := by simp; omega
                by_cases c3 : n1 = 0
                · have d3 : ((n1 : Int) == 0) = true := by simp; omega
                  have HR := hid (show (nos ++ [no], b ++ x.drop ah, 0, s2) = R by
                    have q := HRR.out
                    rw [readN_last HZ.out.1 (by rw [← HZ.out.2.2, ← HK.out.1, HBd2.out]; simp [c1, c2, c3]) (by rw [← HZ.out.2.2, ← HK.out.1, ← HD.out.gs rfl, ← HK.out.2.1, ← HBl.out.2.2]; exact c2), ← HZ.out.2.1, ← HZ.out.2.2, ← HK.out.1, ← HBl.out.2.1] at q
                    exact q)
                  clear c1 c2 c3
                  go_wp2_with (first
                    | (go_at_call 112; refine HEr.out.mono ?_; rintro e _ ⟨rfl, hw⟩; rw [hw]; clear hw)
                    | (go_at_call 113; refine HLf.out.mono ?_; rintro e _ ⟨rfl, hw⟩; rw [hw]; clear hw)
                    | (at_builtin; refine append_kb rfl _ _ rfl w0.heap.size _ bl (S b) rfl (by rw [HK.out.2.2.2.1]; exact HR6.out.rowB) ad2 (x.drop ah) sl cr HDl.out rfl HAx.out (by omega) HR6.out.x.e.adds.size ?_; intro u' w7 hr7 hT7 ho7
                       obtain ⟨ua, uc, hu, _⟩ := own_cq hr7
                       rw [← HBl.out.1] at hu
                       have H7 := hid (HR6.out.byt HK.out.2.2.2.1 HDl.out.symm hr7 hT7 ho7)
                       subst hu
                       clear hr7 hT7 ho7)
                    | (go_at_call 22; refine (HPg.out _).mono ?_; rintro e _ ⟨rfl, hw⟩; rw [hw]; clear hw)
                    | (go_at_call 107; refine (HIp.out _).mono ?_; rintro e _ ⟨rfl, hw⟩; rw [hw]; clear hw))
                  (try rw [Exit.noGoto_ret])
                  go_ret3
                  refine ⟨_, _, _, by rw [← HR.out]; rfl, ?_, fun y hy => List.mem_append_right _ (List.mem_append_right _ hy), by rw [← HR.out]; exact H7.out.ag, by rw [← HR.out]; exact H7.out.bg⟩
                  rw [← HR.out]
                  exact H7.out.lpx.le (by have := HK.out.1; omega)
                · have d3 : ((n1 : Int) == 0) = false := by simp; omega
                  have HR := hid (show ([], [], 22, s2) = R by
                    have q := HRR.out
                    rw [readN_form HZ.out.1 (by rw [← HZ.out.2.2, ← HK.out.1, HBd2.out]; simp [c1, c2, c3]), ← HZ.out.2.1] at q
                    exact q)
                  clear c1 c2 c3
                  go_wp2_with (first
                    | (go_at_call 112; refine HEr.out.mono ?_; rintro e _ ⟨rfl, hw⟩; rw [hw]; clear hw)
                    | (go_at_call 113; refine HLf.out.mono ?_; rintro e _ ⟨rfl, hw⟩; rw [hw]; clear hw)
                    | (at_builtin; refine append_kb rfl _ _ rfl w0.heap.size _ bl (S b) rfl (by rw [HK.out.2.2.2.1]; exact HR6.out.rowB) ad2 (x.drop ah) sl cr HDl.out rfl HAx.out (by omega) HR6.out.x.e.adds.size ?_; intro u' w7 hr7 hT7 ho7
                       obtain ⟨ua, uc, hu, _⟩ := own_cq hr7
                       rw [← HBl.out.1] at hu
                       have H7 := hid (HR6.out.byt HK.out.2.2.2.1 HDl.out.symm hr7 hT7 ho7)
                       subst hu
                       clear hr7 hT7 ho7)
                    | (go_at_call 22; refine (HPg.out _).mono ?_; rintro e _ ⟨rfl, hw⟩; rw [hw]; clear hw)
                    | (go_at_call 107; refine (HIp.out _).mono ?_; rintro e _ ⟨rfl, hw⟩; rw [hw]; clear hw))
                  (try rw [Exit.noGoto_ret])
                  go_ret3
                  exact PXr.no HR.out (H7.out.x.le (by have := HK.out.1; omega))
              · have d2 : ((k1 : Int) == (pg : Int)) = false := by simp; omega
                by_cases c3 : n1 = 0
                · have d3 : ((n1 : Int) == 0) = true := by simp; omega
                  have HR := hid (show ([], [], 22, s2) = R by
                    have q := HRR.out
                    rw [readN_form HZ.out.1 (by rw [← HZ.out.2.2, ← HK.out.1, HBd2.out]; simp [c1, c2, c3]), ← HZ.out.2.1] at q
                    exact q)
                  clear c1 c2 c3
                  go_wp2_with (first
                    | (go_at_call 112; refine HEr.out.mono ?_; rintro e _ ⟨rfl, hw⟩; rw [hw]; clear hw)
                    | (go_at_call 113; refine HLf.out.mono ?_; rintro e _ ⟨rfl, hw⟩; rw [hw]; clear hw)
                    | (at_builtin; refine append_kb rfl _ _ rfl w0.heap.size _ bl (S b) rfl (by rw [HK.out.2.2.2.1]; exact HR6.out.rowB) ad2 (x.drop ah) sl cr HDl.out rfl HAx.out (by omega) HR6.out.x.e.adds.size ?_; intro u' w7 hr7 hT7 ho7
                       obtain ⟨ua, uc, hu, _⟩ := own_cq hr7
                       rw [← HBl.out.1] at hu
                       have H7 := hid (HR6.out.byt HK.out.2.2.2.1 HDl.out.symm hr7 hT7 ho7)
                       subst hu
                       clear hr7 hT7 ho7)
                    | (go_at_call 22; refine (HPg.out _).mono ?_; rintro e _ ⟨rfl, hw⟩; rw [hw]; clear hw)
                    | (go_at_call 107; refine (HIp.out _).mono ?_; rintro e _ ⟨rfl, hw⟩; rw [hw]; clear hw))
                  (try rw [Exit.noGoto_ret])
                  go_ret3
                  exact PXr.no HR.out (H7.out.x.le (by have := HK.out.1; omega))
                · have d3 : ((n1 : Int) == 0) = false := by simp; omega
                  have HBf := hid (show K.isBad nos.length (K.cellB s' D no) b sz0 = false by rw [← HZ.out.2.2, ← HK.out.1, HBd2.out]; simp [c1, c2, c3])
                  have HNl := hid (show ¬ nos.length + 1 = K.pages (K.sizeOf nos.length (K.cellB s' D no) sz0) by rw [← HZ.out.2.2, ← HK.out.1, ← HD.out.gs rfl, ← HK.out.2.1, ← HBl.out.2.2]; exact c2)
                  have HR := hid (show K.readN D (18 - (nos.length + 1)) s2 (nos ++ [no]) (b ++ x.drop ah) sz0 (n1 : Int) = R by
                    have q := HRR.out
                    rw [readN_next HZ.out.1 HBf.out HNl.out, ← HZ.out.2.1, ← HZ.out.2.2, ← HK.out.1, ← HD.out.gs rfl, ← HD.out.gn rfl, ← HBl.out.2.1] at q
                    rw [← HK.out.1]
                    exact q)
                  have HWn := hid (show Rw (nos ++ [no]) (b ++ x.drop ah) sz0 by
                    have q := HWr.out.next (no := no) HBf.out HNl.out
                    rw [← HZ.out.2.2, ← HK.out.1, ← HD.out.gs rfl, ← HBl.out.2.1] at q
                    exact q)
                  clear c1 c2 c3
                  go_wp2_with (first
                    | (go_at_call 112; refine HEr.out.mono ?_; rintro e _ ⟨rfl, hw⟩; rw [hw]; clear hw)
                    | (go_at_call 113; refine HLf.out.mono ?_; rintro e _ ⟨rfl, hw⟩; rw [hw]; clear hw)
                    | (at_builtin; refine append_kb rfl _ _ rfl w0.heap.size _ bl (S b) rfl (by rw [HK.out.2.2.2.1]; exact HR6.out.rowB) ad2 (x.drop ah) sl cr HDl.out rfl HAx.out (by omega) HR6.out.x.e.adds.size ?_; intro u' w7 hr7 hT7 ho7
                       obtain ⟨ua, uc, hu, _⟩ := own_cq hr7
                       rw [← HBl.out.1] at hu
                       have H7 := hid (HR6.out.byt HK.out.2.2.2.1 HDl.out.symm hr7 hT7 ho7)
                       subst hu
                       clear hr7 hT7 ho7)
                    | (go_at_call 22; refine (HPg.out _).mono ?_; rintro e _ ⟨rfl, hw⟩; rw [hw]; clear hw)
                    | (go_at_call 107; refine (HIp.out _).mono ?_; rintro e _ ⟨rfl, hw⟩; rw [hw]; clear hw))
                  go_roundw
                  case rel => exact ⟨s2, nos ++ [no], b ++ x.drop ah, sz0, (n1 : Int), rfl, rfl, by rw [List.length_append, List.length_singleton, ← Nat.add_assoc]; exact H7.out, by rw [List.length_append, List.length_singleton]; exact HR.out, HWn.out⟩
                  case measure => have q := HI.out.1.len; have := HK.out.1; have := HK.out.2.1; simp only [lenK] at *; omega
            · have d1 : ((bl1 : Int) != (ip : Int)) = true := by simp; omega
              have HR := hid (show ([], [], 22, s2) = R by
                have q := HRR.out
                rw [readN_form HZ.out.1 (by rw [← HZ.out.2.2, ← HK.out.1, HBd2.out]; simp [c1]), ← HZ.out.2.1] at q
                exact q)
              clear c1
              go_wp2_with (first
                | (go_at_call 112; refine HEr.out.mono ?_; rintro e _ ⟨rfl, hw⟩; rw [hw]; clear hw)
                | (go_at_call 113; refine HLf.out.mono ?_; rintro e _ ⟨rfl, hw⟩; rw [hw]; clear hw)
                | (at_builtin; refine append_kb rfl _ _ rfl w0.heap.size _ bl (S b) rfl (by rw [HK.out.2.2.2.1]; exact HR6.out.rowB) ad2 (x.drop ah) sl cr HDl.out rfl HAx.out (by omega) HR6.out.x.e.adds.size ?_; intro u' w7 hr7 hT7 ho7
                   obtain ⟨ua, uc, hu, _⟩ := own_cq hr7
                   rw [← HBl.out.1] at hu
                   have H7 := hid (HR6.out.byt HK.out.2.2.2.1 HDl.out.symm hr7 hT7 ho7)
                   subst hu
                   clear hr7 hT7 ho7)
                | (go_at_call 22; refine (HPg.out _).mono ?_; rintro e _ ⟨rfl, hw⟩; rw [hw]; clear hw)
                | (go_at_call 107; refine (HIp.out _).mono ?_; rintro e _ ⟨rfl, hw⟩; rw [hw]; clear hw))
              (try rw [Exit.noGoto_ret])
              go_ret3
              exact PXr.no HR.out (H7.out.x.le (by have := HK.out.1; omega))
        · have HR := hid (show ([], [], 22, s2) = R by
            have q := HRR.out
            rw [readN_form HZ.out.1 (by rw [← HZ.out.2.2, ← HK.out.1]; exact isBad_no2 HD.out he), ← HZ.out.2.1] at q
            exact q)
          have he1 : ((e2 : Int) != 0) = true := by simp; omega
          have he2 : ¬ (e2 : Int) = 0 := by omega
          clear he
          go_wp2_with (go_at_call 112; refine HEr.out.mono ?_; rintro e _ ⟨rfl, hw⟩; rw [hw]; clear hw)
          (try rw [Exit.noGoto_ret])
          go_ret3
          exact PXr.no HR.out (HR6.out.x.le (by have := HK.out.1; omega))
    · rw [readN_bad hz] at HR
      have HC := hid HC
      have HR := hid HR
      have hB : K.cellB s' D no = [] := by unfold K.cellB; rw [if_neg hz]
      rw [hB] at HC
      have hz1 : ((K.cellE s' D no : Int) != 0) = true := by simp; omega
      have hz2 : ¬ (K.cellE s' D no : Int) = 0 := by omega
      generalize K.cellE s' D no = ze at *
      clear hz hB hx hk
      go_wp2_with (first
        | (go_at_call 15; refine HSp.out.mono ?_; rintro e _ ⟨rfl, hw⟩; rw [hw]; clear hw)
        | (go_at_call 109; refine HC.out.mono ?_; rintro e w1 ⟨a, cap, rfl, H1⟩))
      (try rw [Exit.noGoto_ret])
      go_ret3
      exact PXr.no HR.out ((H1.out.2.2.2.1.fewer (fun _ hy => List.mem_append_right _ (List.mem_append_right _ hy))).le (by omega))
end Go.Proofs.YtjlennpoaefllaaGreatDoor

/- Get, Chain, Free of a blob. -/
namespace Go.Proofs.YtjlennpoaefllaaGreatDoor
open Go.RowKit

def PXg (w0 : World) (X : List (Nat × Obj)) (p dp : Nat) (D : dSt) (n kk : Nat) (R : List Int × List UInt8 × Nat × F.Po) (e : Ending) (w' : World) : Prop := ∃ u Y, e = .returned (.tuple #[u, .int .i64 (R.2.2.1 : Int)]) ∧ Hid (LpX w0 w' Y p dp R.2.2.2 D n kk ∧ (∀ x ∈ X, x ∈ Y) ∧ BgX Y u R.2.1)
def PXh (w0 : World) (X : List (Nat × Obj)) (p dp : Nat) (D : dSt) (n kk : Nat) (R : List Int × List UInt8 × Nat × F.Po) (e : Ending) (w' : World) : Prop := ∃ v Y, e = .returned (.tuple #[v, .int .i64 (R.2.2.1 : Int)]) ∧ Hid (LpX w0 w' Y p dp R.2.2.2 D n kk ∧ (∀ x ∈ X, x ∈ Y) ∧ AgX Y v R.1)
set_option maxRecDepth 100000 in
set_option maxHeartbeats 1000000 in
theorem xget_any {w0 w : World} {X : List (Nat × Obj)} {p dp : Nat} {s : F.Po} {D : dSt} {n kk sp : Nat} (h : LpX w0 w X p dp s D n kk) (hX : (sp, SBox p) ∈ X) (hn : n + 20 ≤ 1000000) (hk9 : kk ≤ 900) (first : Int) :
    Calls Tryz.prog 25 #[Ptr sp, .int .i64 first] w (PXg w0 X p dp D (n + 20) kk (K.readB D s first)) := by
  have HR := hid (xread_any h hX hn hk9 first)
  generalize K.readB D s first = R at *
  clear h hX hn hk9
  go_enter Tryz.func25, Tryz.ntmps25
  go_wp2_with (go_at_call 69; refine HR.out.mono ?_; rintro e w1 ⟨v, u, Y, rfl, H1⟩)
  go_ret2
  exact ⟨u, Y, rfl, H1.out.1, H1.out.2.1, H1.out.2.2.2⟩
set_option maxRecDepth 100000 in
set_option maxHeartbeats 1000000 in
theorem xchain_any {w0 w : World} {X : List (Nat × Obj)} {p dp : Nat} {s : F.Po} {D : dSt} {n kk sp : Nat} (h : LpX w0 w X p dp s D n kk) (hX : (sp, SBox p) ∈ X) (hn : n + 20 ≤ 1000000) (hk9 : kk ≤ 900) (first : Int) :
    Calls Tryz.prog 26 #[Ptr sp, .int .i64 first] w (PXh w0 X p dp D (n + 20) kk (K.readB D s first)) := by
  have HR := hid (xread_any h hX hn hk9 first)
  generalize K.readB D s first = R at *
  clear h hX hn hk9
  go_enter Tryz.func26, Tryz.ntmps26
  go_wp2_with (go_at_call 69; refine HR.out.mono ?_; rintro e w1 ⟨v, u, Y, rfl, H1⟩)
  go_ret2
  exact ⟨v, Y, rfl, H1.out.1, H1.out.2.1, H1.out.2.2.1⟩
set_option maxRecDepth 100000 in
theorem readN_len (D : dSt) (r : Nat) : ∀ (s : F.Po) (nos : List Int) (b : List UInt8) (size : Nat) (no : Int), (K.readN D r s nos b size no).1.length ≤ nos.length + r := by
  induction r with
  | zero => intro s nos b size no; exact Nat.zero_le _
  | succ r ih =>
    intro s nos b size no
    unfold K.readN
    split
    · split
      · exact Nat.zero_le _
      · split
        · rw [List.length_append, List.length_singleton]; omega
        · have := ih (F.getS s D no) (nos ++ [no]) (b ++ (K.cellB s D no).drop (K.ahead nos.length)) (K.sizeOf nos.length (K.cellB s D no) size) (K.nextOf (K.cellB s D no) : Int)
          rw [List.length_append, List.length_singleton] at this
          omega
    · exact Nat.zero_le _
def PXf (w0 : World) (X : List (Nat × Obj)) (p dp : Nat) (D : dSt) (n kk : Nat) (R : Nat × F.Po) (e : Ending) (w' : World) : Prop := e = .returned (.int .i64 (R.1 : Int)) ∧ Hid (LpX w0 w' X p dp R.2 D n kk)
set_option maxRecDepth 100000 in
theorem freeN_ok {D : dSt} {l : List Int} {no : Int} {s : F.Po} (h : (G.freeG D s no).1 = 0) : K.freeN D (no :: l) s = K.freeN D l (G.freeG D s no).2 := by conv => lhs; unfold K.freeN; rw [if_pos h]
set_option maxRecDepth 100000 in
theorem freeN_no {D : dSt} {l : List Int} {no : Int} {s : F.Po} (h : ¬ (G.freeG D s no).1 = 0) : K.freeN D (no :: l) s = G.freeG D s no := by unfold K.freeN; rw [if_neg h]
set_option maxRecDepth 100000 in
set_option maxHeartbeats 2000000 in
theorem xfree_any {w0 w : World} {X : List (Nat × Obj)} {p dp : Nat} {s : F.Po} {D : dSt} {n kk sp : Nat} (h : LpX w0 w X p dp s D n kk) (hX : (sp, SBox p) ∈ X) (hn : n + 210 ≤ 1000000) (hk9 : kk ≤ 900) (first : Int) :
    Calls Tryz.prog 27 #[Ptr sp, .int .i64 first] w (PXf w0 X p dp D (n + 210) kk (K.freeB D s first)) := by
  have HC := xchain_any h hX (by omega) hk9 first
  have hlen := readN_len D 18 s [] [] 0 first
  have hB : K.freeB D s first = if (K.readB D s first).2.2.1 = 0 then K.freeN D (K.readB D s first).1 (K.readB D s first).2.2.2 else ((K.readB D s first).2.2.1, (K.readB D s first).2.2.2) := rfl
  rw [hB]
  have hlen : (K.readB D s first).1.length ≤ 18 := by unfold K.readB; simpa using hlen
  obtain ⟨Q, hQ⟩ : ∃ Q, Q = K.readB D s first := ⟨_, rfl⟩
  rw [← hQ] at HC hlen ⊢
  obtain ⟨l, bs, z, s2⟩ := Q
  have HC := hid (show Calls Tryz.prog 26 #[Ptr sp, .int .i64 first] w (fun e w' => ∃ v Y, e = .returned (.tuple #[v, .int .i64 (z : Int)]) ∧ Hid (LpX w0 w' Y p dp s2 D (n + 20) kk ∧ (∀ x ∈ X, x ∈ Y) ∧ AgX Y v l)) from HC)
  show Calls Tryz.prog 27 #[Ptr sp, .int .i64 first] w (PXf w0 X p dp D (n + 210) kk (if z = 0 then K.freeN D l s2 else (z, s2)))
  have hlen : l.length ≤ 18 := hlen
  clear hQ hB
  by_cases hz : z = 0
  · subst hz
    rw [if_pos rfl]
    obtain ⟨R, hR⟩ : ∃ R, R = K.freeN D l s2 := ⟨_, rfl⟩
    rw [← hR]
    obtain ⟨ln, hln⟩ : ∃ ln, ln = l.length := ⟨_, rfl⟩
    have H0 := hid (And.intro hR (And.intro hX (And.intro hn (And.intro hk9 (And.intro hln hlen)))))
    have hlz : (ln : Int) ≤ 18 := by omega
    clear h hX hn hk9 hR hln hlen
    go_enter Tryz.func27, Tryz.ntmps27
    go_upto_region 4 with (go_at_call 26; refine HC.out.mono ?_; rintro e w1 ⟨v, Y, rfl, H1⟩
                           obtain ⟨va, vc, hv, _⟩ := id H1.out.2.2
                           rw [← H0.out.2.2.2.2.1] at hv
                           subst hv)
    go_wp2_with fail
    go_loopw [21] (fun iv wr => ∃ (j : Nat) (s' : F.Po), iv = .int .i64 (j : Int) ∧ j ≤ ln ∧ Hid (LpX w0 wr Y p dp s' D (n + 20 + 10 * j) kk ∧ K.freeN D (l.drop j) s' = R)) (fun iv _ => ln - (intOf iv).toNat)
    case atStart => exact ⟨0, s2, rfl, Nat.zero_le _, H1.out.1, H0.out.1.symm⟩
    case round =>
      obtain ⟨j, s', rfl, hj, HI⟩ := hrel
      by_cases hlt : j < ln
      · have hltz : (j : Int) < (ln : Int) := by omega
        have hjl : j < l.length := by have := H0.out.2.2.2.2.1; omega
        have HR := HI.out.2
        rw [List.drop_eq_getElem_cons hjl] at HR
        obtain ⟨b0, o0, ha0, hc0⟩ := (H1.out.2.2.nat2 HI.out.1).1 j hjl
        subst ha0
        have HF := sfree_any HI.out.1 (H1.out.2.1 _ H0.out.2.1) (by have := H0.out.2.2.1; have := H0.out.2.2.2.2.2; have := H0.out.2.2.2.2.1; omega) H0.out.2.2.2.1 l[j]
        unfold PFr at HF
        generalize l[j] = z at *
        have hz9 : True := trivial
        obtain ⟨Q, hQ⟩ : ∃ Q, Q = G.freeG D s' z := ⟨_, rfl⟩
        rw [← hQ] at HF
        by_cases hz : Q.1 = 0
        · rw [freeN_ok (by rw [← hQ]; exact hz), ← hQ] at HR
          rw [hz] at HF
          have HF := hid HF
          have HR := hid HR
          generalize Q.2 = sx at *
          clear hz hQ hjl hz9
          go_wp2_with (go_at_call 32; refine HF.out.mono ?_; rintro e w2 ⟨rfl, H2⟩)
          go_roundw
          case rel => exact ⟨j + 1, sx, by go_num, by omega, H2.out.le (by omega), HR.out⟩
          case measure => simp [intOf]; omega
        · rw [freeN_no (by rw [← hQ]; exact hz), ← hQ] at HR
          have HF := hid HF
          have hz1 : ((Q.1 : Int) != 0) = true := by simp; omega
          have hz2 : ¬ (Q.1 : Int) = 0 := by omega
          subst HR
          clear hz hQ hjl hz9
          go_wp2_with (go_at_call 32; refine HF.out.mono ?_; rintro e w2 ⟨rfl, H2⟩)
          go_ret
          exact ⟨rfl, (H2.out.fewer H1.out.2.1).le (by have := H0.out.2.2.2.2.1; have := H0.out.2.2.2.2.2; omega)⟩
      · obtain rfl : j = ln := by omega
        have HR := hid HI.out.2
        have hltz : ¬ (j : Int) < (j : Int) := by omega
        go_wp2_with fail
        go_ret
        have hd : l.drop j = [] := by rw [H0.out.2.2.2.2.1]; exact List.drop_length
        have hq := HR.out
        rw [hd] at hq
        refine ⟨by rw [← hq]; rfl, ?_⟩
        rw [← hq]
        exact (HI.out.1.fewer H1.out.2.1).le (by have := H0.out.2.2.2.2.1; have := H0.out.2.2.2.2.2; omega)
  · rw [if_neg hz]
    have hz1 : ((z : Int) != 0) = true := by simp; omega
    have hz2 : ¬ (z : Int) = 0 := by omega
    clear h hX hn hk9 hz hlen
    go_enter Tryz.func27, Tryz.ntmps27
    go_wp2_with (go_at_call 26; refine HC.out.mono ?_; rintro e w1 ⟨v, Y, rfl, H1⟩; obtain ⟨va, vc, hv, _⟩ := id H1.out.2.2; subst hv)
    go_ret
    exact ⟨rfl, (H1.out.1.fewer H1.out.2.1).le (by omega)⟩
end Go.Proofs.YtjlennpoaefllaaGreatDoor

/- Blobs over a space with a frame for each page, by definition. -/
namespace Go.Proofs.YtjlennpoaefllaaGreatDoor
open Go.RowKit
namespace K

/-- Numbers as the program has them. -/
def ci (ns : List Nat) : List Int := ns.map fun i : Nat => (i : Int)
set_option maxRecDepth 100000 in
theorem ci_len (ns : List Nat) : (ci ns).length = ns.length := by simp [ci]
set_option maxRecDepth 100000 in
theorem ci_getD (ns : List Nat) {i : Nat} (h : i < ns.length) : (ci ns).getD i 0 = ((ns[i] : Nat) : Int) := by
  rw [List.getD_eq_getElem?_getD]
  simp [ci, h]
set_option maxRecDepth 100000 in
theorem ci_out (ns : List Nat) {i : Nat} (h : ns.length ≤ i) : (ci ns).getD i 0 = 0 := by
  rw [List.getD_eq_getElem?_getD, List.getElem?_eq_none (by rw [ci_len]; exact h)]
  rfl
/-- The function with more that are taken. -/
def plus (f : Nat → Bool) (ns : List Nat) : Nat → Bool := fun j => f j || decide (j ∈ ns)
def minus (f : Nat → Bool) (ns : List Nat) : Nat → Bool := fun j => f j && !decide (j ∈ ns)
set_option maxRecDepth 100000 in
theorem Sp.ext {c : Nat} {f g : Nat → Bool} {s : F.Po} (h : Sp c f s) (e : ∀ j, f j = g j) : Sp c g s := by
  rw [show g = f from funext fun j => (e j).symm]
  exact h
set_option maxRecDepth 100000 in
theorem allocN_one {D : dSt} {r : Nat} {s s' : F.Po} {l : List Int} {z : Int} (h : G.allocG D (G.maps (G.cnt s)) 0 s = (z, 0, s')) : allocN D (r + 1) s l = allocN D r s' (l ++ [z]) := by
  rw [allocN_ok (by rw [h]), h]
/-- What alloc takes, where there is enough. -/
structure Took (c : Nat) (f : Nat → Bool) (s s' : F.Po) (ns : List Nat) : Prop where
  nd : ns.Nodup
  is : ∀ n ∈ ns, 1 ≤ n ∧ n < c ∧ f n = false
  sp : Sp c (plus f ns) s'
  same : ∀ k, k ≠ 0 → H s' k = H s k
  cnt : cntT c (plus f ns) = cntT c f + ns.length
set_option maxRecDepth 100000 in
theorem Sp.allocN {c : Nat} (D : dSt) : ∀ (r : Nat) (f : Nat → Bool) (s : F.Po) (l : List Int), Sp c f s → cntT c f + r ≤ c → ∃ ns s', K.allocN D r s l = (l ++ ci ns, 0, s') ∧ ns.length = r ∧ Took c f s s' ns
  | 0, f, s, l, h, _ => ⟨[], s, by rw [show ci [] = [] from rfl, List.append_nil]; rfl, rfl, List.nodup_nil, fun n hn => (by cases hn), h.ext (fun j => by simp [plus]), fun _ _ => rfl, by rw [show plus f [] = f from funext fun j => by simp [plus]]; rfl⟩
  | r + 1, f, s, l, h, hc => by
    rcases least_left f c with ⟨i, h1, h2, h3⟩ | ⟨h1, h2⟩
    · obtain ⟨s1, a1, a2, a3⟩ := h.alloc h1 h2 h3 D
      have hcs := cnt_set h2 c
      rw [if_pos h1] at hcs
      obtain ⟨ns, s2, b1, b2, b3⟩ := Sp.allocN D r (fun j => if j = i then true else f j) s1 (l ++ [(i : Int)]) a2 (by rw [hcs]; omega)
      have hi0 : 1 ≤ i := by
        rcases Nat.eq_zero_or_pos i with e | e
        · rw [e, h.f0] at h2; cases h2
        · exact e
      have hni : i ∉ ns := fun hm => by have := (b3.is i hm).2.2; simp at this
      have he : ∀ j, plus (fun j => if j = i then true else f j) ns j = plus f (i :: ns) j := fun j => by
        unfold plus
        by_cases e : j = i
        · subst e; simp
        · simp [e]
      refine ⟨i :: ns, s2, ?_, by rw [List.length_cons, b2], List.nodup_cons.2 ⟨hni, b3.nd⟩, fun n hn => ?_, b3.sp.ext he, fun k hk => by rw [b3.same k hk, a3 k hk], ?_⟩
      · rw [allocN_one a1, b1, List.append_assoc]; rfl
      · rcases List.mem_cons.1 hn with rfl | hn
        · exact ⟨hi0, h1, h2⟩
        · obtain ⟨q1, q2, q3⟩ := b3.is n hn
          refine ⟨q1, q2, ?_⟩
          have hne : n ≠ i := fun e => hni (by rw [← e]; exact hn)
          simpa [hne] using q3
      · rw [← cnt_congr (fun j _ => he j), b3.cnt, hcs, List.length_cons]; omega
    · omega
theorem Sp.allocN_full {c : Nat} (D : dSt) : ∀ (r : Nat) (f : Nat → Bool) (s : F.Po) (l : List Int), Sp c f s → c < cntT c f + r → (K.allocN D r s l).2.1 = 30
  | 0, f, s, l, _, hc => by have := cnt_le f c; omega
  | r + 1, f, s, l, h, hc => by
    rcases least_left f c with ⟨i, h1, h2, h3⟩ | ⟨h1, h2⟩
    · obtain ⟨s1, a1, a2, a3⟩ := h.alloc h1 h2 h3 D
      have hcs := cnt_set h2 c
      rw [if_pos h1] at hcs
      rw [allocN_one a1]
      exact Sp.allocN_full D r _ s1 _ a2 (by rw [hcs]; omega)
    · obtain ⟨s', e⟩ := h.full h1 D
      rw [allocN_no (by rw [e]; show ¬ (30 : Nat) = 0; decide), e]
/-- Pages that hold a blob. -/
structure Laid (c : Nat) (s : F.Po) (ns : List Nat) (b : List UInt8) : Prop where
  nd : ns.Nodup
  is : ∀ n ∈ ns, 1 ≤ n ∧ n < c
  len : ns.length = pages b.length
  b9 : b.length ≤ 4000
  at_ : ∀ j (hj : j < ns.length), H s ((ns[j] : Nat) : Int) = some (pgAt (ci ns) b j)
theorem Laid.same {c : Nat} {s s' : F.Po} {ns : List Nat} {b : List UInt8} (h : Laid c s ns b) (hs : ∀ k : Int, k ≠ 0 → H s' k = H s k) : Laid c s' ns b :=
  ⟨h.nd, h.is, h.len, h.b9, fun j hj => by rw [hs _ (by have := (h.is _ (List.getElem_mem hj)).1; omega)]; exact h.at_ j hj⟩
set_option maxRecDepth 100000 in
theorem pgAt_is {ns : List Nat} {b : List UInt8} {i : Nat} (h : i < ns.length) : pgAt (ci ns) b i = M.pbytes (pgP ns[i] (cell (ci ns) b i)) := by
  unfold pgAt
  rw [ci_getD ns h]
  rfl
set_option maxRecDepth 100000 in
theorem Sp.putN {c : Nat} (hc : c ≤ 1920) {ns : List Nat} {b : List UInt8} (hnd : ns.Nodup) (his : ∀ n ∈ ns, 1 ≤ n ∧ n < c) : ∀ (r i : Nat) (f : Nat → Bool) (s : F.Po), i + r = ns.length → Sp c f s → ∃ s', K.putN (ci ns) b r i s = (0, s') ∧ Sp c f s' ∧ (∀ j (hj : j < ns.length), i ≤ j → H s' ((ns[j] : Nat) : Int) = some (pgAt (ci ns) b j)) ∧ ∀ k : Int, (∀ j (hj : j < ns.length), i ≤ j → k ≠ ((ns[j] : Nat) : Int)) → H s' k = H s k
  | 0, i, f, s, hr, h => ⟨s, rfl, h, fun j hj hij => by omega, fun _ _ => rfl⟩
  | r + 1, i, f, s, hr, h => by
    have hi : i < ns.length := by omega
    obtain ⟨q1, q2⟩ := his _ (List.getElem_mem hi)
    have hcl := len_cell (ci ns) b i
    obtain ⟨p1, p2, p3⟩ := h.wd.put q2 (P := pgP ns[i] (cell (ci ns) b i)) (pg_ok (by omega) hcl) rfl
    have hg := ci_getD ns hi
    rw [← pgAt_is hi] at p1 p2 p3
    obtain ⟨x, hx, hH⟩ := h.map
    have hsp : Sp c f (F.putS s ((ns[i] : Nat) : Int) (pgAt (ci ns) b i)) := ⟨p2, h.c1, h.c2, h.f0, x, hx, by rw [p3 0, if_neg (by omega)]; exact hH⟩
    obtain ⟨s', e1, e2, e3, e4⟩ := Sp.putN hc hnd his r (i + 1) f _ (by omega) hsp
    refine ⟨s', by rw [putN_ok (by rw [hg]; exact p1), hg]; exact e1, e2, fun j hj hij => ?_, fun k hk => ?_⟩
    · rcases Nat.lt_or_eq_of_le hij with q | q
      · exact e3 j hj q
      · subst q
        rw [e4 _ (fun j' hj' hij' e => ?_), p3, if_pos rfl]
        have e' : ns[i] = ns[j'] := by omega
        have := (List.getElem_inj hnd).1 e'
        omega
    · rw [e4 k (fun j hj hij => hk j hj (by omega)), p3 k, if_neg (hk i hi (Nat.le_refl _))]
set_option maxRecDepth 100000 in
theorem unfix4 {n : Nat} (h : n < 4294967296) : M.unfix (M.fix n 4) = n := by rw [M.unfix_fix]; exact Nat.mod_eq_of_lt (by simpa using h)
set_option maxRecDepth 100000 in
/-- What a laid cell says. -/
theorem cell_says {ns : List Nat} {b : List UInt8} {c i : Nat} (his : ∀ n ∈ ns, 1 ≤ n ∧ n < c) (hc : c ≤ 1920) (hlen : ns.length = pages b.length) (hb : b.length ≤ 4000) (hi : i < ns.length) : ahead i ≤ (cell (ci ns) b i).length ∧ nextOf (cell (ci ns) b i) = (nxt (ci ns) i).toNat ∧ sizeOf i (cell (ci ns) b i) b.length = b.length ∧ (cell (ci ns) b i).drop (ahead i) = share b i ∧ (nextOf (cell (ci ns) b i) = 0 ↔ i + 1 = ns.length) := by
  have hnx : (nxt (ci ns) i).toNat < 4294967296 ∧ ((nxt (ci ns) i).toNat = 0 ↔ i + 1 = ns.length) := by
    unfold nxt
    by_cases q : i + 1 < ns.length
    · rw [ci_getD ns q]
      have := his _ (List.getElem_mem q)
      omega
    · rw [ci_out ns (by omega)]
      simp
      omega
  obtain ⟨nx, hn⟩ : ∃ nx, nx = (nxt (ci ns) i).toNat := ⟨_, rfl⟩
  rw [← hn] at hnx ⊢
  have hce : cell (ci ns) b i = hd nx b.length i ++ share b i := by rw [hn]; rfl
  rw [hce]
  have e1 : nextOf (hd nx b.length i ++ share b i) = nx := by
    unfold nextOf hd
    by_cases q : i = 0
    · rw [if_pos q, List.append_assoc, List.take_left' (by rw [M.len_fix]), unfix4 hnx.1]
    · rw [if_neg q, List.take_left' (by rw [M.len_fix]), unfix4 hnx.1]
  refine ⟨by rw [List.length_append, len_hd]; unfold ahead; omega, e1, ?_, ?_, by rw [e1]; exact hnx.2⟩
  · unfold sizeOf
    by_cases q : i = 0
    · rw [if_pos q]
      unfold hd
      rw [if_pos q, List.append_assoc, List.drop_left' (by rw [M.len_fix]), List.take_left' (by rw [M.len_fix]), unfix4 (by omega)]
    · rw [if_neg q]
  · exact List.drop_left' (by rw [len_hd]; unfold ahead; rfl)
set_option maxRecDepth 100000 in
theorem take_share (b : List UInt8) (i : Nat) : b.take (inP i b.length) ++ share b i = b.take (inP (i + 1) b.length) := by
  unfold share
  have hm := inP_mono i b.length
  have e : b.take (inP i b.length) = (b.take (inP (i + 1) b.length)).take (inP i b.length) := by rw [List.take_take, Nat.min_eq_left hm]
  rw [e, List.take_append_drop]
set_option maxRecDepth 100000 in
theorem ci_take (ns : List Nat) {i : Nat} (h : i < ns.length) : (ci ns).take i ++ [((ns[i] : Nat) : Int)] = (ci ns).take (i + 1) := by
  rw [List.take_add_one]
  simp [ci, h]
set_option maxRecDepth 100000 in
theorem Sp.readN {c : Nat} {f : Nat → Bool} {ns : List Nat} {b : List UInt8} (D : dSt) : ∀ (r i : Nat) (s : F.Po) (size : Nat), Sp c f s → Laid c s ns b → i < ns.length → ns.length ≤ i + r → (i = 0 ∨ size = b.length) → ∃ s', K.readN D r s ((ci ns).take i) (b.take (inP i b.length)) size ((ci ns).getD i 0) = (ci ns, b, 0, s') ∧ Sp c f s' ∧ ∀ k, H s' k = H s k
  | 0, i, s, size, _, _, hi, hr, _ => by omega
  | r + 1, i, s, size, h, hL, hi, hr, hsz => by
    obtain ⟨q1, q2⟩ := hL.is _ (List.getElem_mem hi)
    obtain ⟨g1, g2, g3, g4⟩ := h.wd.get (no := ((ns[i] : Nat) : Int)) (by omega) (hL.at_ i hi) D
    rw [pgAt_is hi] at g2
    have hcl := len_cell (ci ns) b i
    have hk := pg_kind (k := ns[i]) (x := cell (ci ns) b i) (by have := h.c2; omega) hcl
    have hcs := pg_cells (k := ns[i]) (x := cell (ci ns) b i) (by have := h.c2; omega) hcl
    unfold pg at hk hcs
    have hgd := ci_getD ns hi
    have hcE : cellE s D ((ns[i] : Nat) : Int) = 0 := by unfold cellE; rw [if_pos g1, g2, hk, hcs]; rfl
    have hcB : cellB s D ((ns[i] : Nat) : Int) = cell (ci ns) b i := by unfold cellB; rw [if_pos hcE, g2, hcs]; rfl
    obtain ⟨s1, s2, s3, s4, s5⟩ := cell_says hL.is h.c2 hL.len hL.b9 hi
    have hil : ((ci ns).take i).length = i := by rw [List.length_take, ci_len]; omega
    have hsz2 : sizeOf i (cell (ci ns) b i) size = b.length := by
      rcases hsz with e | e
      · rw [← s3]; unfold sizeOf; rw [if_pos e, if_pos e]
      · rw [e]; exact s3
    have hbad : isBad ((ci ns).take i).length (cellB s D ((ns[i] : Nat) : Int)) (b.take (inP i b.length)) size = false := by
      rw [hil, hcB]
      unfold isBad
      have hb9 := hL.b9
      have hp := inP_le (i + 1) b.length
      have e1 : (b.take (inP i b.length) ++ share b i).length = inP (i + 1) b.length := by rw [take_share, List.length_take]; omega
      have e2 : decide (i + 1 = pages b.length) = decide (nextOf (cell (ci ns) b i) = 0) := by rw [← hL.len]; exact decide_eq_decide.2 s5.symm
      rw [hsz2, s4, e1, e2]
      simp
      omega
    have hsp : Sp c f (F.getS s D ((ns[i] : Nat) : Int)) := by
      obtain ⟨x, hx, hH⟩ := h.map
      exact ⟨g3, h.c1, h.c2, h.f0, x, hx, by rw [g4]; exact hH⟩
    rw [hgd]
    by_cases hl : i + 1 = ns.length
    · refine ⟨F.getS s D ((ns[i] : Nat) : Int), ?_, hsp, g4⟩
      rw [readN_last hcE hbad (by rw [hil, hcB, hsz2, ← hL.len]; exact hl), hil, hcB, s4, take_share, ci_take ns hi, hl, hL.len, inP_all (Nat.le_refl _)]
      rw [show (ci ns).take (pages b.length) = ci ns from List.take_of_length_le (by rw [ci_len, hL.len]; exact Nat.le_refl _), List.take_length]
    · have hi1 : i + 1 < ns.length := by omega
      obtain ⟨s', e1, e2, e3⟩ := Sp.readN D r (i + 1) _ b.length hsp (hL.same (fun k _ => g4 k)) hi1 (by omega) (.inr rfl)
      refine ⟨s', ?_, e2, fun k => by rw [e3, g4]⟩
      have hnx : (nextOf (cell (ci ns) b i) : Int) = (ci ns).getD (i + 1) 0 := by
        rw [s2]
        unfold nxt
        rw [ci_getD ns hi1]
        rfl
      rw [readN_next hcE hbad (by rw [hil, hcB, hsz2, ← hL.len]; exact hl), hil, hcB, s4, take_share, ci_take ns hi, hsz2, hnx]
      exact e1
set_option maxRecDepth 100000 in
theorem Sp.read {c : Nat} {f : Nat → Bool} {ns : List Nat} {b : List UInt8} {s : F.Po} (h : Sp c f s) (hL : Laid c s ns b) (D : dSt) : ∃ s', readB D s ((ci ns).getD 0 0) = (ci ns, b, 0, s') ∧ Sp c f s' ∧ ∀ k, H s' k = H s k := by
  have hp := pages_pos b.length
  have hp2 := pages_le hL.b9
  have hl := hL.len
  exact Sp.readN D 18 0 s 0 h hL (by omega) (by omega) (.inl rfl)
theorem Sp.freeN {c : Nat} (D : dSt) : ∀ (ns : List Nat) (f : Nat → Bool) (s : F.Po), Sp c f s → ns.Nodup → (∀ n ∈ ns, 1 ≤ n ∧ n < c ∧ f n = true) → ∃ s', K.freeN D (ci ns) s = (0, s') ∧ Sp c (minus f ns) s' ∧ (∀ k, k ≠ 0 → H s' k = H s k) ∧ cntT c (minus f ns) + ns.length = cntT c f
  | [], f, s, h, _, _ => ⟨s, rfl, h.ext (fun j => by simp [minus]), fun _ _ => rfl, by rw [show minus f [] = f from funext fun j => by simp [minus]]; rfl⟩
  | n :: ns, f, s, h, hnd, his => by
    obtain ⟨q1, q2, q3⟩ := his n List.mem_cons_self
    obtain ⟨s1, a1, a2, a3⟩ := h.free q1 q2 q3 D
    obtain ⟨n1, n2⟩ := List.nodup_cons.1 hnd
    obtain ⟨s2, b1, b2, b3, b4⟩ := Sp.freeN D ns (fun j => if j = n then false else f j) s1 a2 n2 (fun m hm => by
      obtain ⟨p1, p2, p3⟩ := his m (List.mem_cons_of_mem _ hm)
      have hne : m ≠ n := fun e => n1 (by rw [← e]; exact hm)
      exact ⟨p1, p2, by simp [hne, p3]⟩)
    have he : ∀ j, minus (fun j => if j = n then false else f j) ns j = minus f (n :: ns) j := fun j => by
      unfold minus
      by_cases e : j = n
      · subst e; simp
      · simp [e]
    have hcs := cnt_unset q3 c
    rw [if_pos q2] at hcs
    refine ⟨s2, ?_, b2.ext he, fun k hk => by rw [b3 k hk, a3 k hk], ?_⟩
    · show K.freeN D (((n : Nat) : Int) :: ci ns) s = _
      rw [freeN_ok (by rw [a1]), a1]
      exact b1
    · rw [← cnt_congr (fun j _ => he j), List.length_cons]; omega
end K
end Go.Proofs.YtjlennpoaefllaaGreatDoor

/- The chapter's example. -/
namespace Go.Proofs.YtjlennpoaefllaaGreatDoor
open Go.RowKit
namespace K

theorem s0_sp {c m : Nat} (hc : 1 ≤ c) (hc2 : c ≤ 1920) (hm : c ≤ m) (hg : F.Good (S0 c m)) : Sp c (fun i => decide (i = 0)) (S0 c m) :=
  ⟨⟨rfl, by show (c : Int) ≤ (m : Int); omega, hg⟩, hc, hc2, rfl, G.first c 0, G.CellOf.first hc hc2, rfl⟩
set_option maxRecDepth 100000 in
theorem Sp.putB {c : Nat} {f : Nat → Bool} {s : F.Po} (h : Sp c f s) {b : List UInt8} (hb : b.length ≤ 4000) (hc : cntT c f + pages b.length ≤ c) (D : dSt) : ∃ ns s', K.putB D s b = ((ci ns).getD 0 0, 0, s') ∧ Laid c s' ns b ∧ Sp c (plus f ns) s' ∧ (∀ n ∈ ns, 1 ≤ n ∧ n < c ∧ f n = false) ∧ (∀ k : Int, k ≠ 0 → (∀ n ∈ ns, k ≠ ((n : Nat) : Int)) → H s' k = H s k) ∧ cntT c (plus f ns) = cntT c f + pages b.length := by
  obtain ⟨ns, s1, a1, a2, a3⟩ := h.allocN D (pages b.length) f s [] hc
  have his : ∀ n ∈ ns, 1 ≤ n ∧ n < c := fun n hn => ⟨(a3.is n hn).1, (a3.is n hn).2.1⟩
  obtain ⟨s2, b1, b2, b3, b4⟩ := Sp.putN h.c2 (b := b) a3.nd his ns.length 0 _ s1 (Nat.zero_add _) a3.sp
  rw [a2] at b1
  refine ⟨ns, s2, ?_, ⟨a3.nd, his, a2, hb, fun j hj => b3 j hj (Nat.zero_le _)⟩, b2, a3.is, fun k hk hk2 => ?_, by rw [a3.cnt, a2]⟩
  · unfold K.putB
    rw [if_neg (by omega), a1, List.nil_append]
    unfold putR
    rw [if_pos rfl, b1]
    rfl
  · rw [b4 k (fun j hj _ => hk2 _ (List.getElem_mem hj)), a3.same k hk]
set_option maxRecDepth 100000 in
theorem Sp.putB_full {c : Nat} {f : Nat → Bool} {s : F.Po} (h : Sp c f s) {b : List UInt8} (hb : b.length ≤ 4000) (hc : c < cntT c f + pages b.length) (D : dSt) : (K.putB D s b).2.1 = 30 := by
  have e := h.allocN_full D (pages b.length) f s [] hc
  unfold K.putB
  rw [if_neg (by omega)]
  unfold putR
  rw [if_neg (by rw [e]; decide)]
  exact e
def abc : List UInt8 := [97, 98, 99]
set_option maxRecDepth 100000 in
theorem abc_put {s : F.Po} (h : Sp 4 (fun i => decide (i = 0)) s) (D : dSt) : ∃ s' s2, K.putB D s abc = (1, 0, s') ∧ K.readB D s' 1 = ([1], abc, 0, s2) := by
  obtain ⟨s1, a1, a2, a3⟩ := h.alloc (i := 1) (by decide) rfl (fun j hj => by obtain rfl : j = 0 := (by omega); rfl) D
  have e1 : K.allocN D (pages abc.length) s [] = ([1], 0, s1) := by
    show K.allocN D 1 s [] = _
    rw [allocN_one a1]
    rfl
  obtain ⟨s2, b1, b2, b3, b4⟩ := Sp.putN (c := 4) (by decide) (ns := [1]) (b := abc) (by simp) (fun n hn => by obtain rfl := List.mem_singleton.1 hn; decide) 1 0 _ s1 rfl a2
  have hL : Laid 4 s2 [1] abc := ⟨by simp, fun n hn => by obtain rfl := List.mem_singleton.1 hn; decide, rfl, by decide, fun j hj => b3 j hj (Nat.zero_le _)⟩
  obtain ⟨s3, c1, c2, c3⟩ := b2.read hL D
  refine ⟨s2, s3, ?_, c1⟩
  unfold K.putB
  rw [if_neg (by decide), e1]
  unfold putR
  rw [if_pos rfl]
  rw [show K.putN ([1], 0, s1).1 abc (pages abc.length) 0 ([1], 0, s1).2.2 = (0, s2) from b1]
  rfl
end K
set_option maxRecDepth 100000 in
set_option maxHeartbeats 400000 in
theorem xpages_small (w : World) (z : Int) (h0 : ¬ z < 0) (h1 : z ≤ 234) : Calls Tryz.prog 22 #[.int .i64 z] w (Tells (.int .i64 1) w) := by
  go_enter Tryz.func22, Tryz.ntmps22
  go_wp2_with fail
  go_ret
  exact ⟨rfl, rfl⟩
theorem PwE.good {w0 w : World} {X : List (Nat × Obj)} {p d q r : Nat} {s s' : F.Po} {D D' : dSt} {n k : Nat} (h : PwE w0 w X p d q r s s' D D' n k) : F.Good s := h.facts.1
set_option maxRecDepth 100000 in
set_option maxHeartbeats 4000000 in
theorem works13 (w : World) (hT : Tab w) : Calls Tryz.prog 18 #[] w (Adding (.bool true) w) := by
  have HM := hid (show Calls Tryz.prog 19 #[.int .i64 4, .int .i64 4] w (PMade w 4 4) from kmade_any 4 4 (by decide) (by decide) (by decide) (by decide) w hT)
  have HPa := hid (fun w' => show Calls Tryz.prog 22 #[.int .i64 0] w' (Tells (.int .i64 1) w') from xpages_small w' 0 (by decide) (by decide))
  have HPb := hid (fun w' => show Calls Tryz.prog 22 #[.int .i64 234] w' (Tells (.int .i64 1) w') from xpages_small w' 234 (by decide) (by decide))
  have HPc := hid (fun w' => show Calls Tryz.prog 22 #[.int .i64 235] w' (Tells (.int .i64 2) w') from xpages_big w' 235 (by decide) (by decide) (by decide))
  have HPd := hid (fun w' => show Calls Tryz.prog 22 #[.int .i64 472] w' (Tells (.int .i64 2) w') from xpages_big w' 472 (by decide) (by decide) (by decide))
  have HPe := hid (fun w' => show Calls Tryz.prog 22 #[.int .i64 473] w' (Tells (.int .i64 3) w') from xpages_big w' 473 (by decide) (by decide) (by decide))
  clear hT
  go_enter Tryz.func18, Tryz.ntmps18
  go_upto_region 4 with (first
    | (go_at_call 22; refine (HPa.out _).mono ?_; clear HPa; rintro e _ ⟨rfl, hw⟩; rw [hw]; clear hw)
    | (go_at_call 22; refine (HPb.out _).mono ?_; clear HPb; rintro e _ ⟨rfl, hw⟩; rw [hw]; clear hw)
    | (go_at_call 22; refine (HPc.out _).mono ?_; clear HPc; rintro e _ ⟨rfl, hw⟩; rw [hw]; clear hw)
    | (go_at_call 22; refine (HPd.out _).mono ?_; clear HPd; rintro e _ ⟨rfl, hw⟩; rw [hw]; clear hw)
    | (go_at_call 22; refine (HPe.out _).mono ?_; clear HPe; rintro e _ ⟨rfl, hw⟩; rw [hw]; clear hw)
    | (go_at_call 19; refine HM.out.mono ?_; rintro e w1 ⟨sp, p, d, q, r, rfl, H1⟩))
  have hsp := K.s0_sp (c := 4) (m := 4) (by decide) (by decide) (by decide) H1.out.1.good
  obtain ⟨Y, hL, _⟩ := H1.out.1.lpx
  obtain ⟨s2, s3, e1, e2⟩ := K.abc_put hsp (dSt.new (4 : Nat))
  obtain ⟨N, hN⟩ : ∃ N, N = w1.heap.size := ⟨_, rfl⟩
  obtain ⟨wA, hwA⟩ : ∃ wA, wA = w1.alloc (.cells #[.int .u8 97, .int .u8 98, .int .u8 99] 5 (3, 4)) := ⟨_, rfl⟩
  have hX : LpX w wA ((N, Obj.cells #[.int .u8 97, .int .u8 98, .int .u8 99] 5 (3, 4)) :: ([(sp, SBox p)] ++ Y)) p d (S0 4 4) (dSt.new (4 : Nat)) 10 0 := by rw [hwA, hN]; exact hL.more ((Touch.refl _ w1).alloc _) _ _ (heap_alloc_new w1 _) (Nat.le_refl _)
  have HB : Bx ((N, Obj.cells #[.int .u8 97, .int .u8 98, .int .u8 99] 5 (3, 4)) :: ([(sp, SBox p)] ++ Y)) N K.abc := ⟨_, _, List.mem_cons_self, fun i c hi => by
    match i, hi with
    | 0, hi => obtain rfl : (97 : UInt8) = c := by simpa [K.abc] using hi
               rfl
    | 1, hi => obtain rfl : (98 : UInt8) = c := by simpa [K.abc] using hi
               rfl
    | 2, hi => obtain rfl : (99 : UInt8) = c := by simpa [K.abc] using hi
               rfl
    | i + 3, hi => simp [K.abc] at hi⟩
  have hmem : (sp, SBox p) ∈ (N, Obj.cells #[.int .u8 97, .int .u8 98, .int .u8 99] 5 (3, 4)) :: ([(sp, SBox p)] ++ Y) := List.mem_cons_of_mem _ (List.mem_append_left _ List.mem_cons_self)
  have HPu := xput_any hX hmem N K.abc 3 3 HB rfl (by decide) (by decide) (by decide) (by decide)
  rw [e1] at HPu
  have HPu := hid (show Calls Tryz.prog 24 #[Ptr sp, .slice (some ⟨N, 0, none⟩) 3 3] wA (fun e w' => e = .returned (.tuple #[.int .i64 1, .int .i64 0]) ∧ Hid (LpX w w' ((N, Obj.cells #[.int .u8 97, .int .u8 98, .int .u8 99] 5 (3, 4)) :: ([(sp, SBox p)] ++ Y)) p d s2 (dSt.new (4 : Nat)) 220 0)) from HPu)
  have HGe := hid (fun (w' : World) (h : LpX w w' ((N, Obj.cells #[.int .u8 97, .int .u8 98, .int .u8 99] 5 (3, 4)) :: ([(sp, SBox p)] ++ Y)) p d s2 (dSt.new (4 : Nat)) 220 0) => show Calls Tryz.prog 25 #[Ptr sp, .int .i64 1] w' (fun e w2 => ∃ a cap, e = .returned (.tuple #[.slice a 3 cap, .int .i64 0]) ∧ Hid (At w2 a K.abc ∧ Adds w w2)) by
    have q := xget_any h hmem (by decide) (by decide) 1
    rw [e2] at q
    refine q.mono ?_
    rintro e w2 ⟨u, Z, rfl, H⟩
    obtain ⟨a, cap, hu, hA, _⟩ := H.out.2.2.get H.out.1
    exact ⟨a, cap, by rw [hu]; rfl, hA, H.out.1.e.adds⟩)
  have hcv := fun (w' : World) (a : Option Addr) (cap : Nat) (h : At w' a K.abc) => show (convert 43 9 (.slice a 3 cap)).run Tryz.prog w' = .ok (.string ⟨#[97, 98, 99]⟩) w' from conv_at w' a K.abc cap h
  have HCv := hid hcv
  have hcc := fun w' => Lib.run_convert_bytes_const (P := Tryz.prog) w' 43 5 #[.int .u8 97, .int .u8 98, .int .u8 99] 3 3 Tryz.underlying43 Tryz.underlying5
  clear hsp hL e1 e2 hX HB hmem hcv HM
  go_upto_region 7 with (first
    | (go_at_call 24; rw [← hwA, ← hN]; refine HPu.out.mono ?_; rintro e w2 ⟨rfl, H2⟩))
  have HGe2 := hid (HGe.out w2 H2.out)
  go_upto_region 8 with (go_at_call 25; refine HGe2.out.mono ?_; rintro e w3 ⟨a, cap, rfl, H3⟩)
  have hcv3 := HCv.out w3 a cap H3.out.1
  go_wp2_with fail
  go_ret
  exact ⟨rfl, H3.out.2⟩
end Go.Proofs.YtjlennpoaefllaaGreatDoor

/- The bytes of a Put. -/
namespace Go.Proofs.YtjlennpoaefllaaGreatDoor
open Go.RowKit
/-- How many bytes, and which. -/
def bodyN (n : Int) : Nat := (n % 18446744073709551616 % 4200).toNat
def bodyL (fill : UInt8) (n : Nat) : List UInt8 := (List.range n).map fun i => fill + UInt8.ofNat (i % 31)
set_option maxRecDepth 100000 in
theorem len_bodyL (fill : UInt8) (n : Nat) : (bodyL fill n).length = n := by simp [bodyL]
set_option maxRecDepth 100000 in
theorem bodyL_more (fill : UInt8) (n : Nat) : bodyL fill (n + 1) = bodyL fill n ++ [fill + UInt8.ofNat (n % 31)] := by simp [bodyL, List.range_succ]
set_option maxRecDepth 100000 in
theorem makeK (n : Nat) (h : n ≤ 5000) (w : World) : (Instr.makeSlice 43 (.int .i64 (n : Int)) (.int .i64 (n : Int))).run Tryz.prog w = .ok (.slice (some ⟨w.heap.size, 0, none⟩) n n) (w.alloc (.cells (S (List.replicate n 0)).toArray 5)) := by
  obtain ⟨i0, hi, hz0, hz1, hz2⟩ := info5all
  have q := run_make (P := Tryz.prog) w 43 5 i0 (.int .u8 0) Tryz.underlying43 hi hz0 .i64 .i64 n n (by omega) (by omega) (by rw [hz2]; omega) (by omega)
  rw [q, hz1]
  simp only [madeCells, S, Int.toNat_natCast, Nat.mul_one]
  congr 3
  apply Array.ext
  · simp
  · intro i h1 h2; simp [Value.cells, Nat.mod_one]; rfl
set_option maxRecDepth 100000 in
theorem body_set (fill : UInt8) {k L : Nat} (h : k < L) : ((S (bodyL fill k ++ List.replicate (L - k) 0)).toArray.setIfInBounds k (.int .u8 ((fill + UInt8.ofNat (k % 31)).toNat : Int))) = (S (bodyL fill (k + 1) ++ List.replicate (L - (k + 1)) 0)).toArray := by
  apply Array.ext'
  rw [Array.toList_setIfInBounds]
  have e : L - k = (L - (k + 1)) + 1 := by omega
  rw [e, List.replicate_succ, bodyL_more, List.append_assoc]
  unfold S
  rw [List.map_append, List.set_append_right _ _ (by rw [List.length_map, len_bodyL]; exact Nat.le_refl _)]
  simp [len_bodyL, B8]
def PBody (w : World) (bs : List UInt8) (L : Nat) (e : Ending) (w' : World) : Prop := e = .returned (.slice (some ⟨w.heap.size, 0, none⟩) L L) ∧ Hid (w'.heap[w.heap.size]? = some (.cells (S bs).toArray 5 (0, 0)) ∧ Adds w w' ∧ w'.heap.size = w.heap.size + 1)
set_option maxRecDepth 100000 in
set_option maxHeartbeats 2000000 in
theorem body_any (n : Int) (fill : UInt8) (w : World) : Calls Tryz.prog 28 #[.int .i64 n, .int .u8 (fill.toNat : Int)] w (PBody w (bodyL fill (bodyN n)) (bodyN n)) := by
  obtain ⟨L, hL⟩ : ∃ L, L = bodyN n := ⟨_, rfl⟩
  obtain ⟨z, hz⟩ : ∃ z : Int, z = (L : Int) := ⟨_, rfl⟩
  have hL9 : L ≤ 4199 := by rw [hL]; unfold bodyN; omega
  have hmw0 : (IntKind.u64.wrap n).tmod 4200 = z := by
    have h1 : IntKind.u64.wrap n = n % 18446744073709551616 := by rw [IntKind.wrap_u64]
    have h0 : 0 ≤ n % 18446744073709551616 := Int.emod_nonneg _ (by decide)
    rw [h1, Int.tmod_eq_emod_of_nonneg h0, hz, hL]
    unfold bodyN
    omega
  have hun0 : wrap64 z = z := by simp [wrap64]; omega
  have hmk : ∀ w, (Instr.makeSlice 43 (.int .i64 z) (.int .i64 z)).run Tryz.prog w = .ok (.slice (some ⟨w.heap.size, 0, none⟩) L L) (w.alloc (.cells (S (List.replicate L 0)).toArray 5)) := fun w => by rw [hz]; exact makeK L (by omega) w
  obtain ⟨g, hg⟩ : ∃ g, g = w.heap.size := ⟨_, rfl⟩
  obtain ⟨w1, hw1⟩ : ∃ w1, w1 = w.alloc (.cells (S (List.replicate L 0)).toArray 5) := ⟨_, rfl⟩
  have H1 := hid (show w1.heap[g]? = some (.cells (S (bodyL fill 0 ++ List.replicate (L - 0) 0)).toArray 5 (0, 0)) ∧ Adds w w1 ∧ w1.heap.size = w.heap.size + 1 by
    rw [hw1, hg]
    exact ⟨by rw [heap_alloc_new]; simp [bodyL], (Touch.refl _ w).alloc _, by simp⟩)
  have HG := hid hg
  obtain ⟨fz, hfz⟩ : ∃ fz : Int, fz = (fill.toNat : Int) := ⟨_, rfl⟩
  have HF := hid hfz
  rw [← hL, ← hfz]
  have HZ := hid hz
  unfold PBody
  clear hL hfz hz
  go_enter Tryz.func28, Tryz.ntmps28
  go_upto_region 2 with fail
  rw [← hw1, ← hg]
  clear hw1 hg hmk hmw0 hun0
  go_wp2_with fail
  go_loopw [14] (fun i wr => ∃ k : Nat, k ≤ L ∧ i = .int .i64 (k : Int) ∧ Hid (wr.heap[g]? = some (.cells (S (bodyL fill k ++ List.replicate (L - k) 0)).toArray 5 (0, 0)) ∧ Adds w wr ∧ wr.heap.size = w.heap.size + 1)) (fun i _ => L - (intOf i).toNat)
  case atStart => exact ⟨0, Nat.zero_le _, rfl, H1.out⟩
  case round =>
    obtain ⟨k, hk, rfl, HI⟩ := hrel
    by_cases hlt : k < L
    · have hlt' : (k : Int) < (L : Int) := by omega
      have hcell : wr.cell? ⟨g, k, none⟩ = some (.int .u8 0) := by rw [cellOf HI.out.1]; simp [S, len_bodyL, B8, List.getElem?_append_right]; rw [List.getElem?_replicate, if_pos (by omega)]
      have hfz : wr.frozen? ⟨g, k, none⟩ = false := by simp [World.frozen?, HI.out.1]
      have hk9 : k < 4200 := by omega
      go_wp2_with fail
      have hval : (fz + (k : Int) % 31) % 256 = ((fill + UInt8.ofNat (k % 31)).toNat : Int) := by
        have h1 : (UInt8.ofNat (k % 31)).toNat = k % 31 := by
          show (k % 31) % 2 ^ 8 = k % 31
          omega
        rw [HF.out, UInt8.toNat_add, h1]
        omega
      rw [hval]
      go_roundw
      case rel =>
        refine ⟨k + 1, by omega, by go_num, ?_, HI.out.2.1.then (Touch.setCell (T := fun j => j = g) (Touch.refl _ wr) (p := ⟨g, k, none⟩) (fun _ => rfl) _) (fun j hj e => by have := HG.out; omega), ?_⟩
        · rw [heap_setCell_same wr g k _ 5 _ HI.out.1, ← body_set fill hlt]
        · rw [← HI.out.2.2]; simp
      case measure => simp [intOf]; omega
    · obtain rfl : k = L := by omega
      go_wp2_with fail
      go_ret
      rw [Nat.sub_self] at HI
      have h1 := HI.out
      rw [HG.out] at h1 ⊢
      exact ⟨rfl, by simpa using h1.1, h1.2⟩
end Go.Proofs.YtjlennpoaefllaaGreatDoor

/- Some blobs over a space, by definition. -/
namespace Go.Proofs.YtjlennpoaefllaaGreatDoor
open Go.RowKit
namespace K
theorem Laid.keep {c : Nat} {s s' : F.Po} {ns : List Nat} {b : List UInt8} (h : Laid c s ns b) (hs : ∀ n ∈ ns, H s' ((n : Nat) : Int) = H s ((n : Nat) : Int)) : Laid c s' ns b :=
  ⟨h.nd, h.is, h.len, h.b9, fun j hj => by rw [hs _ (List.getElem_mem hj)]; exact h.at_ j hj⟩
/-- Blobs that were put, each with its pages. -/
structure Bk (c : Nat) (f : Nat → Bool) (s : F.Po) (B : List (List Nat × List UInt8)) : Prop where
  sp : Sp c f s
  laid : ∀ x ∈ B, Laid c s x.1 x.2
  tk : ∀ x ∈ B, ∀ n ∈ x.1, f n = true
  dj : B.Pairwise fun x y => ∀ n ∈ x.1, n ∉ y.1
section
variable {c : Nat} {f : Nat → Bool} {s : F.Po} {B : List (List Nat × List UInt8)}
theorem Bk.none (h : Sp c f s) : Bk c f s [] := ⟨h, fun x hx => (by cases hx), fun x hx => (by cases hx), List.Pairwise.nil⟩
set_option maxRecDepth 100000 in
theorem Bk.put (h : Bk c f s B) {b : List UInt8} (hb : b.length ≤ 4000) (hc : cntT c f + pages b.length ≤ c) (D : dSt) : ∃ ns s', K.putB D s b = ((ci ns).getD 0 0, 0, s') ∧ Bk c (plus f ns) s' (B ++ [(ns, b)]) ∧ cntT c (plus f ns) = cntT c f + pages b.length := by
  obtain ⟨ns, s', a1, a2, a3, a4, a5, a6⟩ := h.sp.putB hb hc D
  have hnew : ∀ x ∈ B, ∀ n ∈ x.1, n ∉ ns := fun x hx n hn hm => by
    have q1 := h.tk x hx n hn
    rw [(a4 n hm).2.2] at q1
    cases q1
  refine ⟨ns, s', a1, ⟨a3, fun x hx => ?_, fun x hx n hn => ?_, ?_⟩, a6⟩
  · rcases List.mem_append.1 hx with hx | hx
    · refine (h.laid x hx).keep (fun n hn => a5 _ ?_ (fun m hm e => ?_))
      · have := ((h.laid x hx).is n hn).1; omega
      · have e' : n = m := by omega
        exact hnew x hx n hn (by rw [e']; exact hm)
    · obtain rfl := List.mem_singleton.1 hx
      exact a2
  · unfold plus
    rcases List.mem_append.1 hx with hx | hx
    · rw [h.tk x hx n hn]; rfl
    · obtain rfl := List.mem_singleton.1 hx
      simp [hn]
  · rw [List.pairwise_append]
    refine ⟨h.dj, List.pairwise_singleton _ _, fun x hx y hy n hn => ?_⟩
    obtain rfl := List.mem_singleton.1 hy
    exact hnew x hx n hn
theorem Bk.same (h : Bk c f s B) {s' : F.Po} (hsp : Sp c f s') (hs : ∀ k, H s' k = H s k) : Bk c f s' B := ⟨hsp, fun x hx => (h.laid x hx).keep (fun _ _ => hs _), h.tk, h.dj⟩
set_option maxRecDepth 100000 in
theorem Bk.read (h : Bk c f s B) {ns : List Nat} {b : List UInt8} (hx : (ns, b) ∈ B) (D : dSt) : ∃ s', K.readB D s ((ci ns).getD 0 0) = (ci ns, b, 0, s') ∧ Bk c f s' B := by
  obtain ⟨s', e1, e2, e3⟩ := h.sp.read (h.laid _ hx) D
  exact ⟨s', e1, h.same e2 e3⟩
set_option maxRecDepth 100000 in
theorem Bk.taken (h : Bk c f s B) (D : dSt) : ∃ s', G.takenG D (G.maps (G.cnt s)) 0 s [] = (G.nums c f, 0, s') ∧ Bk c f s' B := by
  obtain ⟨s', e1, e2, e3⟩ := h.sp.taken D
  exact ⟨s', e1, h.same e2 e3⟩
set_option maxRecDepth 100000 in
/-- One is freed: the others stay. -/
theorem Bk.free {A C : List (List Nat × List UInt8)} {ns : List Nat} {b : List UInt8} (h : Bk c f s (A ++ (ns, b) :: C)) (D : dSt) : ∃ s', K.freeB D s ((ci ns).getD 0 0) = (0, s') ∧ Bk c (minus f ns) s' (A ++ C) ∧ cntT c (minus f ns) + pages b.length = cntT c f := by
  have hm : (ns, b) ∈ A ++ (ns, b) :: C := List.mem_append_right _ List.mem_cons_self
  have hL := h.laid _ hm
  obtain ⟨s1, e1, e2⟩ := h.read hm D
  obtain ⟨s2, q1, q2, q3, q4⟩ := e2.sp.freeN D ns f s1 hL.nd (fun n hn => ⟨(hL.is n hn).1, (hL.is n hn).2, h.tk _ hm n hn⟩)
  obtain ⟨d1, d2, d3⟩ := List.pairwise_append.1 h.dj
  obtain ⟨d4, d5⟩ := List.pairwise_cons.1 d2
  have hout : ∀ x ∈ A ++ C, ∀ n ∈ x.1, n ∉ ns := fun x hx n hn hm => by
    rcases List.mem_append.1 hx with hx | hx
    · exact d3 x hx _ List.mem_cons_self n hn hm
    · exact d4 x hx n hm hn
  have hsub : ∀ x ∈ A ++ C, x ∈ A ++ (ns, b) :: C := fun x hx => by
    rcases List.mem_append.1 hx with hx | hx
    · exact List.mem_append_left _ hx
    · exact List.mem_append_right _ (List.mem_cons_of_mem _ hx)
  refine ⟨s2, ?_, ⟨q2, fun x hx => ?_, fun x hx n hn => ?_, ?_⟩, by rw [← hL.len]; exact q4⟩
  · show (if (K.readB D s ((ci ns).getD 0 0)).2.2.1 = 0 then K.freeN D (K.readB D s ((ci ns).getD 0 0)).1 (K.readB D s ((ci ns).getD 0 0)).2.2.2 else _) = _
    rw [e1, if_pos rfl]
    exact q1
  · refine (e2.laid x (hsub x hx)).keep (fun n hn => q3 _ ?_)
    have := ((h.laid x (hsub x hx)).is n hn).1
    omega
  · unfold minus
    rw [h.tk x (hsub x hx) n hn]
    simp [hout x hx n hn]
  · rw [List.pairwise_append]
    exact ⟨d1, d5, fun x hx y hy => d3 x hx y (List.mem_cons_of_mem _ hy)⟩
end
end K
end Go.Proofs.YtjlennpoaefllaaGreatDoor

/- Numbers and strings of one's own, among the blocks that are nobody's. -/
namespace Go.Proofs.YtjlennpoaefllaaGreatDoor
open Go.RowKit

/-- Strings in a row. -/
def Ss (bs : List (List UInt8)) : List Value := bs.map Str
/-- Numbers and strings of one's own. -/
structure Sr (w0 w : World) (X : List (Nat × Obj)) (p dp : Nat) (s : F.Po) (D : dSt) (n k : Nat) (v : Value) (zs : List Int) (u : Value) (bs : List (List UInt8)) : Prop where
  lpx : LpX w0 w (rowBk w v ++ (rowBk w u ++ X)) p dp s D n k
  rowN : w.ownsRow w0.heap.size 3 1 v zs.length (I zs)
  rowB : w.ownsRow w0.heap.size 9 1 u bs.length (Ss bs)
  apN : ∀ x ∈ X, v.ownBlock ≠ some x.1
  apB : ∀ x ∈ X, u.ownBlock ≠ some x.1
section
variable {w0 w w' : World} {X : List (Nat × Obj)} {p dp : Nat} {s s' : F.Po} {D : dSt} {n n' k m : Nat} {v v' u u' : Value} {zs : List Int} {bs : List (List UInt8)}
theorem Sr.le (h : Sr w0 w X p dp s D n k v zs u bs) (hn : n ≤ n') : Sr w0 w X p dp s D n' k v zs u bs := ⟨h.lpx.le hn, h.rowN, h.rowB, h.apN, h.apB⟩
theorem Sr.x (h : Sr w0 w X p dp s D n k v zs u bs) : LpX w0 w X p dp s D n k := h.lpx.fewer (fun _ hy => List.mem_append_right _ (List.mem_append_right _ hy))
/-- The two rows lie apart. -/
theorem Sr.two (h : Sr w0 w X p dp s D n k v zs u bs) : (∀ j, v.ownBlock = some j → u.ownBlock ≠ some j) ∧ ∀ j, u.ownBlock = some j → v.ownBlock ≠ some j :=
  ⟨fun _ hj => row_apart h.rowN h.rowB (by decide) hj, fun _ hj => row_apart h.rowB h.rowN (by decide) hj⟩
set_option maxRecDepth 100000 in
theorem Sr.ns (h : Sr w0 w X p dp s D n k v zs u bs) : Ns w0 w (rowBk w u ++ X) p dp s D n k v zs := by
  refine ⟨h.lpx, h.rowN, fun x hx e => ?_⟩
  rcases List.mem_append.1 hx with hx | hx
  · exact h.two.1 _ e (mem_rowBk.1 hx).1
  · exact h.apN x hx e
set_option maxRecDepth 100000 in
/-- Another call has been made. -/
theorem Sr.next (h : Sr w0 w X p dp s D n k v zs u bs) (h' : LpX w0 w' (rowBk w v ++ (rowBk w u ++ X)) p dp s' D n' k) : Sr w0 w' X p dp s' D n' k v zs u bs := by
  have e1 := rowBk_same (X := X) h' h.rowN (fun y hy => List.mem_append_left _ hy) rfl
  have e2 := rowBk_same (X := X) h' h.rowB (fun y hy => List.mem_append_right _ (List.mem_append_left _ hy)) rfl
  exact ⟨by rw [e1, e2]; exact h', row_keepX h.lpx h' h.rowN (row_inX h.rowN (fun y hy => List.mem_append_left _ hy)), row_keepX h.lpx h' h.rowB (row_inX h.rowB (fun y hy => List.mem_append_right _ (List.mem_append_left _ hy))), h.apN, h.apB⟩
theorem Sr.adds (h : Sr w0 w X p dp s D n k v zs u bs) (hA : Adds w w') : Sr w0 w' X p dp s D n k v zs u bs := h.next (h.lpx.add hA)
set_option maxRecDepth 100000 in
/-- A number has come. -/
theorem Sr.num (h : Sr w0 w X p dp s D n k v zs u bs) {z : Int} (hm : m = zs.length) (hr : w'.ownsRow w0.heap.size 3 1 v' (m + 1) (I zs ++ [.int .i64 z])) (hT : Touch (fun j => v.ownBlock = some j) w w') (ho : ∀ j, v'.ownBlock = some j → v.ownBlock = some j ∨ w.heap.size ≤ j) : Sr w0 w' X p dp s D n k v' (zs ++ [z]) u bs := by
  have hN := h.ns.snoc hm hr hT ho
  have e2 := rowBk_same (X := X) hN.lpx h.rowB (fun y hy => List.mem_append_right _ (List.mem_append_left _ hy)) rfl
  exact ⟨by rw [e2]; exact hN.lpx, hN.row, row_touch h.rowB hT (fun j hj c => h.two.2 j hj c), fun x hx => hN.apart x (List.mem_append_right _ hx), h.apB⟩
set_option maxRecDepth 100000 in
/-- Strings have come. -/
theorem Sr.str (h : Sr w0 w X p dp s D n k v zs u bs) {cs : List (List UInt8)} {c : Nat} (hm : m = bs.length) (hc : c = cs.length) (hr : w'.ownsRow w0.heap.size 9 1 u' (m + c) (Ss bs ++ Ss cs)) (hT : Touch (fun j => u.ownBlock = some j) w w') (ho : ∀ j, u'.ownBlock = some j → u.ownBlock = some j ∨ w.heap.size ≤ j) : Sr w0 w' X p dp s D n k v zs u' (bs ++ cs) := by
  subst hm
  subst hc
  have hr' : w'.ownsRow w0.heap.size 9 1 u' (bs ++ cs).length (Ss (bs ++ cs)) := by
    rw [List.length_append, show Ss (bs ++ cs) = Ss bs ++ Ss cs by simp [Ss]]
    exact hr
  have h1 : LpX w0 w (rowBk w u ++ (rowBk w v ++ X)) p dp s D n k := h.lpx.fewer (fun y hy => by
    rcases List.mem_append.1 hy with hy | hy
    · exact List.mem_append_right _ (List.mem_append_left _ hy)
    · rcases List.mem_append.1 hy with hy | hy
      · exact List.mem_append_left _ hy
      · exact List.mem_append_right _ (List.mem_append_right _ hy))
  have hap : ∀ x ∈ rowBk w v ++ X, u.ownBlock ≠ some x.1 := fun x hx e => by
    rcases List.mem_append.1 hx with hx | hx
    · exact h.two.2 _ e (mem_rowBk.1 hx).1
    · exact h.apB x hx e
  have h2 := h1.grow h.rowB hT hr' ho hap
  have hap2 := grow_apart h1 ho hap
  have e1 := rowBk_same (X := X) h2 h.rowN (fun y hy => List.mem_append_right _ (List.mem_append_left _ hy)) rfl
  have hrn : w'.ownsRow w0.heap.size 3 1 v zs.length (I zs) := row_touch h.rowN hT (fun j hj c => h.two.1 j hj c)
  refine ⟨h2.fewer (fun y hy => ?_), hrn, hr', h.apN, fun x hx => hap2 x (List.mem_append_right _ hx)⟩
  rw [e1] at hy
  rcases List.mem_append.1 hy with hy | hy
  · exact List.mem_append_right _ (List.mem_append_left _ hy)
  · rcases List.mem_append.1 hy with hy | hy
    · exact List.mem_append_left _ hy
    · exact List.mem_append_right _ (List.mem_append_right _ hy)
end
end Go.Proofs.YtjlennpoaefllaaGreatDoor

/- Some blobs in a law's memory: their first pages and their bytes in rows of the law's own. -/
namespace Go.Proofs.YtjlennpoaefllaaGreatDoor
open Go.RowKit
section
variable {w0 w w' : World} {X : List (Nat × Obj)} {p dp : Nat} {s s' : F.Po} {D : dSt} {n n' k m : Nat} {v v' u u' : Value} {zs : List Int} {ss : List (List UInt8)}
set_option maxRecDepth 100000 in
/-- One block more that is nobody's. -/
theorem Sr.more (h : Sr w0 w X p dp s D n k v zs u ss) (hA : Adds w w') (g : Nat) (o : Obj) (hg : w'.heap[g]? = some o) (hn : w.heap.size ≤ g) : Sr w0 w' ((g, o) :: X) p dp s D n k v zs u ss := by
  have h1 := h.adds hA
  have e1 := rowBk_same (X := X) (h.lpx.add hA) h.rowN (fun y hy => List.mem_append_left _ hy) rfl
  have e2 := rowBk_same (X := X) (h.lpx.add hA) h.rowB (fun y hy => List.mem_append_right _ (List.mem_append_left _ hy)) rfl
  have h2 := h.lpx.more hA g o hg hn
  refine ⟨h2.fewer (fun y hy => ?_), h1.rowN, h1.rowB, fun x hx e => ?_, fun x hx e => ?_⟩
  · rw [e1, e2] at hy
    rcases List.mem_append.1 hy with hy | hy
    · exact List.mem_cons_of_mem _ (List.mem_append_left _ hy)
    · rcases List.mem_append.1 hy with hy | hy
      · exact List.mem_cons_of_mem _ (List.mem_append_right _ (List.mem_append_left _ hy))
      · rcases List.mem_cons.1 hy with rfl | hy
        · exact List.mem_cons_self
        · exact List.mem_cons_of_mem _ (List.mem_append_right _ (List.mem_append_right _ hy))
  · rcases List.mem_cons.1 hx with rfl | hx
    · obtain ⟨y, hy, e3⟩ := row_in h.rowN e
      have := (Array.getElem?_eq_some_iff.1 (h.lpx.at y (List.mem_append_left _ hy))).1
      have e4 : y.1 = g := e3
      omega
    · exact h.apN x hx e
  · rcases List.mem_cons.1 hx with rfl | hx
    · obtain ⟨y, hy, e3⟩ := row_in h.rowB e
      have := (Array.getElem?_eq_some_iff.1 (h.lpx.at y (List.mem_append_right _ (List.mem_append_left _ hy)))).1
      have e4 : y.1 = g := e3
      omega
    · exact h.apB x hx e
set_option maxRecDepth 100000 in
theorem Sr.fewer (h : Sr w0 w X p dp s D n k v zs u ss) {Y : List (Nat × Obj)} (hY : ∀ y ∈ Y, y ∈ X) : Sr w0 w Y p dp s D n k v zs u ss := by
  refine ⟨h.lpx.fewer (fun y hy => ?_), h.rowN, h.rowB, fun x hx => h.apN x (hY x hx), fun x hx => h.apB x (hY x hx)⟩
  rcases List.mem_append.1 hy with hy | hy
  · exact List.mem_append_left _ hy
  · rcases List.mem_append.1 hy with hy | hy
    · exact List.mem_append_right _ (List.mem_append_left _ hy)
    · exact List.mem_append_right _ (List.mem_append_right _ (hY y hy))
set_option maxRecDepth 100000 in
theorem Sr.mem (h : Sr w0 w X p dp s D n k v zs u ss) {x : Nat × Obj} (hx : x ∈ X) : x ∈ rowBk w v ++ (rowBk w u ++ X) := by
  have _ := h
  exact List.mem_append_right _ (List.mem_append_right _ hx)
end
/-- The first page of each; the bytes of each. -/
def firsts (B : List (List Nat × List UInt8)) : List Int := B.map fun x => (K.ci x.1).getD 0 0
def bodies (B : List (List Nat × List UInt8)) : List (List UInt8) := B.map (·.2)
/-- Blobs that were put over a space, in a law's memory. -/
def Bb (w0 w : World) (X : List (Nat × Obj)) (p dp : Nat) (D : dSt) (n c : Nat) (v u : Value) (f : Nat → Bool) (B : List (List Nat × List UInt8)) : Prop := ∃ s, Sr w0 w X p dp s D n 0 v (firsts B) u (bodies B) ∧ K.Bk c f s B
section
variable {w0 w w' : World} {X : List (Nat × Obj)} {p dp sp : Nat} {D : dSt} {n n' c : Nat} {v u : Value} {f : Nat → Bool} {B : List (List Nat × List UInt8)}
set_option maxRecDepth 100000 in
theorem Bb.le (h : Bb w0 w X p dp D n c v u f B) (hn : n ≤ n') : Bb w0 w X p dp D n' c v u f B := by
  obtain ⟨s, h1, h2⟩ := h
  exact ⟨s, h1.le hn, h2⟩
set_option maxRecDepth 100000 in
theorem Bb.adds (h : Bb w0 w X p dp D n c v u f B) (hA : Adds w w') : Bb w0 w' X p dp D n c v u f B := by
  obtain ⟨s, h1, h2⟩ := h
  exact ⟨s, h1.adds hA, h2⟩
set_option maxRecDepth 100000 in
theorem Bb.base (h : Bb w0 w X p dp D n c v u f B) : Adds w0 w := by
  obtain ⟨s, h1, _⟩ := h
  exact h1.lpx.e.adds
set_option maxRecDepth 100000 in
theorem Bb.fewer (h : Bb w0 w X p dp D n c v u f B) {Y : List (Nat × Obj)} (hY : ∀ y ∈ Y, y ∈ X) : Bb w0 w Y p dp D n c v u f B := by
  obtain ⟨s, h1, h2⟩ := h
  exact ⟨s, h1.fewer hY, h2⟩
set_option maxRecDepth 100000 in
theorem Bb.more (h : Bb w0 w X p dp D n c v u f B) (hA : Adds w w') (g : Nat) (o : Obj) (hg : w'.heap[g]? = some o) (hn : w.heap.size ≤ g) : Bb w0 w' ((g, o) :: X) p dp D n c v u f B := by
  obtain ⟨s, h1, h2⟩ := h
  exact ⟨s, h1.more hA g o hg hn, h2⟩
set_option maxRecDepth 100000 in
theorem Bb.at (h : Bb w0 w X p dp D n c v u f B) {x : Nat × Obj} (hx : x ∈ X) : w.heap[x.1]? = some x.2 := by
  obtain ⟨s, h1, _⟩ := h
  exact h1.lpx.at x (h1.mem hx)
set_option maxRecDepth 100000 in
/-- A Put of too many bytes. -/
theorem bb_put_big (h : Bb w0 w X p dp D n c v u f B) (hX : (sp, SBox p) ∈ X) (g : Nat) (b : List UInt8) (bn cap : Nat) (hB : Bx X g b) (hbn : b.length = bn) (hbl : 4000 < bn) (hb6 : bn ≤ 1000000) (hcap : bn ≤ cap) (hn : n + 210 ≤ 1000000) :
    Calls Tryz.prog 24 #[Ptr sp, .slice (some ⟨g, 0, none⟩) bn cap] w (fun e w' => e = .returned (.tuple #[.int .i64 0, .int .i64 3]) ∧ Hid (Bb w0 w' X p dp D (n + 210) c v u f B)) := by
  obtain ⟨s, h1, h2⟩ := h
  obtain ⟨cs, fr, hm, hcs⟩ := hB
  have q := xput_any h1.lpx (h1.mem hX) g b bn cap ⟨cs, fr, h1.mem hm, hcs⟩ hbn hb6 hcap hn (by omega)
  have e : K.putB D s b = (0, 3, s) := by unfold K.putB; rw [if_pos (by omega)]
  rw [e] at q
  refine q.mono ?_
  rintro e w' ⟨he, H⟩
  exact ⟨he, s, h1.next H.out, h2⟩
set_option maxRecDepth 100000 in
/-- A Put of more pages than are left. -/
theorem bb_put_full (h : Bb w0 w X p dp D n c v u f B) (hX : (sp, SBox p) ∈ X) (g : Nat) (b : List UInt8) (bn cap : Nat) (hB : Bx X g b) (hbn : b.length = bn) (hbl : bn ≤ 4000) (hcap : bn ≤ cap) (hn : n + 210 ≤ 1000000) (hc : c < K.cntT c f + K.pages bn) :
    Calls Tryz.prog 24 #[Ptr sp, .slice (some ⟨g, 0, none⟩) bn cap] w (fun e w' => ∃ z, e = .returned (.tuple #[.int .i64 z, .int .i64 30]) ∧ Hid (Adds w0 w')) := by
  obtain ⟨s, h1, h2⟩ := h
  obtain ⟨cs, fr, hm, hcs⟩ := hB
  have q := xput_any h1.lpx (h1.mem hX) g b bn cap ⟨cs, fr, h1.mem hm, hcs⟩ hbn (by omega) hcap hn (by omega)
  have e := h2.sp.putB_full (b := b) (by omega) (by rw [hbn]; exact hc) D
  refine q.mono ?_
  rintro e' w' ⟨he, H⟩
  rw [e] at he
  exact ⟨_, he, H.out.e.adds⟩
set_option maxRecDepth 100000 in
/-- A Put that is done. -/
theorem bb_put_ok (h : Bb w0 w X p dp D n c v u f B) (hX : (sp, SBox p) ∈ X) (g : Nat) (b : List UInt8) (bn cap : Nat) (hB : Bx X g b) (hbn : b.length = bn) (hbl : bn ≤ 4000) (hcap : bn ≤ cap) (hn : n + 210 ≤ 1000000) (hc : K.cntT c f + K.pages bn ≤ c) :
    Calls Tryz.prog 24 #[Ptr sp, .slice (some ⟨g, 0, none⟩) bn cap] w (fun e w' => ∃ z f', e = .returned (.tuple #[.int .i64 z, .int .i64 0]) ∧ Hid (∃ ns s', z = (K.ci ns).getD 0 0 ∧ Sr w0 w' X p dp s' D (n + 210) 0 v (firsts B) u (bodies B) ∧ K.Bk c f' s' (B ++ [(ns, b)]) ∧ K.cntT c f' = K.cntT c f + K.pages bn)) := by
  obtain ⟨s, h1, h2⟩ := h
  obtain ⟨cs, fr, hm, hcs⟩ := hB
  have q := xput_any h1.lpx (h1.mem hX) g b bn cap ⟨cs, fr, h1.mem hm, hcs⟩ hbn (by omega) hcap hn (by omega)
  obtain ⟨ns, s', e1, e2, e3⟩ := h2.put (b := b) (by omega) (by rw [hbn]; exact hc) D
  rw [e1] at q
  refine q.mono ?_
  rintro e' w' ⟨he, H⟩
  exact ⟨_, _, he, ns, s', rfl, h1.next H.out, e2, by rw [e3, hbn]⟩
set_option maxRecDepth 100000 in
/-- Taken. -/
theorem bb_taken (h : Bb w0 w X p dp D n c v u f B) (hX : (sp, SBox p) ∈ X) (hn : n + 10 ≤ 1000000) :
    Calls Tryz.prog 29 #[Ptr sp] w (fun e w' => ∃ a cap, e = .returned (.tuple #[.slice a (K.cntT c f) cap, .int .i64 0]) ∧ Hid (Bb w0 w' X p dp D (n + 10) c v u f B)) := by
  obtain ⟨s, h1, h2⟩ := h
  have q := staken_any h1.lpx (h1.mem hX) hn (by omega)
  obtain ⟨s', e1, e2⟩ := h2.taken D
  rw [e1] at q
  refine q.mono ?_
  rintro e w' ⟨x, Z, he, H⟩
  obtain ⟨a, cap, hx, _⟩ := H.out.2.2
  subst hx
  rw [K.nums_cnt] at he
  exact ⟨a, cap, he, s', h1.next (H.out.1.fewer (fun y hy => H.out.2.1 y hy)), e2⟩
end
end Go.Proofs.YtjlennpoaefllaaGreatDoor
