/- Texts put together: FLaw, FGood, FWorks, FWorks2, FNobody. -/
import Derived.Test.YtjbdchgadfhffaaDoorQ29
import Derived.Test.YtjbdchgadfhffaaDoorQ30
/- A pool and its disk in a law's memory: each call, by their states. -/
namespace Go.Proofs.YtjbdchgadfhffaaDoor
open Go.RowKit

/-- A pool p on the disk dp, in the states s and D, both in memory that is new since w0. -/
structure Lp (w0 w : World) (O OD : Nat → Prop) (p dp : Nat) (s : F.Po) (D : dSt) (n k : Nat) : Prop where
  pool : IsPool w O p dp s n
  disk : IsDO w OD dp D
  ok : DOk D k
  apart : ∀ j, O j → ¬ OD j
  low : ∀ j, O j ∨ OD j → w0.heap.size ≤ j
  lt : ∀ j, O j ∨ OD j → j < w.heap.size
  adds : Adds w0 w
  tab : Tab w0
  good : F.Good s
  pok : POk s D
def LpE (w0 w : World) (p dp : Nat) (s : F.Po) (D : dSt) (n k : Nat) : Prop := ∃ O OD, Lp w0 w O OD p dp s D n k
theorem Lp.add {w0 w w' : World} {O OD : Nat → Prop} {p dp : Nat} {s : F.Po} {D : dSt} {n k : Nat} (h : Lp w0 w O OD p dp s D n k) (hA : Adds w w') : Lp w0 w' O OD p dp s D n k :=
  ⟨h.pool.adds hA, h.disk.adds hA, h.ok, h.apart, h.low, fun j c => Nat.lt_of_lt_of_le (h.lt j c) hA.size, h.adds.trans hA, h.tab, h.good, h.pok⟩
set_option maxRecDepth 100000 in
theorem LpE.add {w0 w w' : World} {p dp : Nat} {s : F.Po} {D : dSt} {n k : Nat} (h : LpE w0 w p dp s D n k) (hA : Adds w w') : LpE w0 w' p dp s D n k := by
  obtain ⟨O, OD, h⟩ := h
  exact ⟨O, OD, h.add hA⟩
set_option maxRecDepth 100000 in
theorem LpE.adds {w0 w : World} {p dp : Nat} {s : F.Po} {D : dSt} {n k : Nat} (h : LpE w0 w p dp s D n k) : Adds w0 w := by
  obtain ⟨O, OD, h⟩ := h
  exact h.adds
/-- What a call leaves. -/
def PLp (w0 : World) (p dp : Nat) (s : F.Po) (D : dSt) (n k : Nat) (v : Value) (e : Ending) (w' : World) : Prop := e = .returned v ∧ Hid (LpE w0 w' p dp s D n k)
set_option maxRecDepth 100000 in
/-- The pool's side has moved. -/
theorem Lp.moved {w0 w w' : World} {O OD O' : Nat → Prop} {p dp : Nat} {s s' : F.Po} {D : dSt} {n n' k : Nat} (h : Lp w0 w O OD p dp s D n k) (hp : IsPool w' O' p dp s' n') (hT : Touch O w w') (hO : ∀ j, O' j → O j ∨ (w.heap.size ≤ j ∧ j < w'.heap.size)) (hg : F.Good s') (hk : POk s' D) : Lp w0 w' O' OD p dp s' D n' k := by
  have hz := hT.size
  have hz0 := h.adds.size
  refine ⟨hp, h.disk.touch hT (fun j c c' => h.apart j c' c), h.ok, fun j c c' => ?_, fun j c => ?_, fun j c => ?_, h.adds.then hT (fun j hj c => by have := h.low j (.inl c); omega), h.tab, hg, hk⟩
  · rcases hO j c with c | c
    · exact h.apart j c c'
    · have := h.lt j (.inr c'); omega
  · rcases c with c | c
    · rcases hO j c with c | c
      · exact h.low j (.inl c)
      · omega
    · exact h.low j (.inr c)
  · rcases c with c | c
    · rcases hO j c with c | c
      · exact Nat.lt_of_lt_of_le (h.lt j (.inl c)) hz
      · exact c.2
    · exact Nat.lt_of_lt_of_le (h.lt j (.inr c)) hz
theorem Lp.tabs {w0 w : World} {O OD : Nat → Prop} {p dp : Nat} {s : F.Po} {D : dSt} {n k : Nat} (h : Lp w0 w O OD p dp s D n k) : Tab w := h.tab.adds h.adds
set_option maxRecDepth 100000 in
theorem lp_put {w0 w : World} {p dp : Nat} {s : F.Po} {D : dSt} {n k : Nat} (h : LpE w0 w p dp s D n k) (hn : n + 1 ≤ 1000000) (no : Int) (a : Option Addr) (bs : List UInt8) (m cap : Nat) (hm : bs.length = m) (hc : m ≤ cap) (hA : At w a bs) (hg : F.Good (F.putS s no bs)) (hk : POk (F.putS s no bs) D) :
    Calls Tryd.prog 9 #[Ptr p, .int .i64 no, .slice a m cap] w (PLp w0 p dp (F.putS s no bs) D (n + 1) k (.int .i64 (F.putE s no bs : Int))) := by
  obtain ⟨O, OD, h⟩ := h
  refine (bput_any h.pool hn no a bs m cap hm hc hA h.tabs).mono ?_
  rintro e w' ⟨rfl, H⟩
  obtain ⟨O', h1, h2, h3⟩ := H.out
  exact ⟨rfl, O', OD, h.moved h1 h2 h3 hg hk⟩
/-- What Get tells, in a law. -/
def PLg (w0 w : World) (p dp : Nat) (s : F.Po) (D : dSt) (n k z : Nat) (bs : List UInt8) (e : Ending) (w' : World) : Prop := ∃ v, e = .returned (.tuple #[v, .int .i64 (z : Int)]) ∧ Hid (w'.ownsRow w.heap.size 5 1 v bs.length (S bs) ∧ ∃ O OD, Lp w0 w' O OD p dp s D n k ∧ ∀ j, v.ownBlock = some j → ¬ (O j ∨ OD j))
set_option maxRecDepth 100000 in
theorem lp_get {w0 w : World} {p dp : Nat} {s : F.Po} {D : dSt} {n k : Nat} (h : LpE w0 w p dp s D n k) (hn : n + 1 ≤ 1000000) (hk9 : k ≤ 900) (no : Int) (hg : F.Good (F.getS s D no)) (hk : POk (F.getS s D no) D) :
    Calls Tryd.prog 8 #[Ptr p, .int .i64 no] w (PLg w0 w p dp (F.getS s D no) D (n + 1) k (F.getE s D no) (F.getB s D no)) := by
  obtain ⟨O, OD, h⟩ := h
  refine (bget_any h.pool hn (fun j c => h.lt j (.inl c)) h.disk h.ok hk9 h.pok h.tabs no).mono ?_
  rintro e w' ⟨v, rfl, H⟩
  obtain ⟨h0, O', h1, h2, h3, h4⟩ := H.out
  refine ⟨v, rfl, h0, O', OD, h.moved h1 h2 h3 hg hk, fun j hj c => ?_⟩
  rcases c with c | c
  · exact h4 j hj c
  · have := (row_low h0 hj).1
    have := h.lt j (.inr c)
    omega
set_option maxRecDepth 100000 in
theorem LpE.len {w0 w : World} {p dp : Nat} {s : F.Po} {D : dSt} {n k : Nat} (h : LpE w0 w p dp s D n k) : s.L.length ≤ 10000 := by
  obtain ⟨O, OD, h⟩ := h
  have := h.good.len
  have := h.pok.mo2
  omega
set_option maxRecDepth 100000 in
theorem lp_accept {w0 w : World} {p dp : Nat} {s : F.Po} {D : dSt} {n k : Nat} (h : LpE w0 w p dp s D n k) (hg : F.Good (F.accS s)) :
    Calls Tryd.prog 12 #[Ptr p] w (PLp w0 p dp (F.accS s) D n k (.int .i64 ((F.which s F.isFresh).length : Int))) := by
  have hl := h.len
  obtain ⟨O, OD, h⟩ := h
  refine (baccept_any h.pool (fun j c => h.lt j (.inl c)) hl).mono ?_
  rintro e w' ⟨rfl, H⟩
  obtain ⟨O', h1, h2, h3⟩ := H.out
  exact ⟨rfl, O', OD, h.moved h1 h2 h3 hg ⟨h.pok.fr0, h.pok.ct1, h.pok.fit, h.pok.size, h.pok.mo1, h.pok.mo2⟩⟩
set_option maxRecDepth 100000 in
theorem lp_flush {w0 w : World} {p dp : Nat} {s : F.Po} {D : dSt} {n k k' : Nat} (h : LpE w0 w p dp s D n k) (hg : F.Good (F.flS s D)) (hpk : POk (F.flS s D) (F.flX s D).2) (hk9 : k + (F.which s F.isDirty).length ≤ 890) (hok : DOk (F.flX s D).2 k') :
    Calls Tryd.prog 10 #[Ptr p] w (PLp w0 p dp (F.flS s D) (F.flX s D).2 n k' (.int .i64 (F.flX s D).1)) := by
  obtain ⟨O, OD, h⟩ := h
  have hz0 := h.adds.size
  refine (bflush_any h.pool h.disk h.ok h.apart h.lt h.good h.pok (fun w' hT => h.tab.adds (h.adds.then hT (fun j hj c => by have := h.low j c; omega))) hk9).mono ?_
  rintro e w' ⟨rfl, H⟩
  obtain ⟨h1, O', h2, h3, h4⟩ := H.out
  have hz := h3.size
  refine ⟨rfl, O, O', h1, h2, hok, fun j c c' => ?_, fun j c => ?_, fun j c => ?_, h.adds.then h3 (fun j hj c => by have := h.low j c; omega), h.tab, hg, hpk⟩
  · rcases h4 j c' with c' | c'
    · exact h.apart j c c'
    · have := h.lt j (.inl c); omega
  · rcases c with c | c
    · exact h.low j (.inl c)
    · rcases h4 j c with c | c
      · exact h.low j (.inr c)
      · omega
  · rcases c with c | c
    · exact Nat.lt_of_lt_of_le (h.lt j (.inl c)) hz
    · rcases h4 j c with c | c
      · exact Nat.lt_of_lt_of_le (h.lt j (.inr c)) hz
      · exact c.2
set_option maxRecDepth 100000 in
theorem lp_fresh {w0 w : World} {p dp : Nat} {s : F.Po} {D : dSt} {n k : Nat} (h : LpE w0 w p dp s D n k) : Calls Tryd.prog 14 #[Ptr p] w (PNums w (F.which s F.isFresh)) := by
  have hl := h.len
  obtain ⟨O, OD, h⟩ := h
  exact bfresh_any h.pool hl
set_option maxRecDepth 100000 in
theorem lp_dirty {w0 w : World} {p dp : Nat} {s : F.Po} {D : dSt} {n k : Nat} (h : LpE w0 w p dp s D n k) : Calls Tryd.prog 15 #[Ptr p] w (PNums w (F.which s F.isDirty)) := by
  have hl := h.len
  obtain ⟨O, OD, h⟩ := h
  exact bdirty_any h.pool hl
set_option maxRecDepth 100000 in
theorem lp_held {w0 w : World} {p dp : Nat} {s : F.Po} {D : dSt} {n k : Nat} (h : LpE w0 w p dp s D n k) : Calls Tryd.prog 16 #[Ptr p] w (PNums w (F.which s F.isHeld)) := by
  have hl := h.len
  obtain ⟨O, OD, h⟩ := h
  exact bheld_any h.pool hl
set_option maxRecDepth 100000 in
theorem lp_steps {w0 w : World} {p dp : Nat} {s : F.Po} {D : dSt} {n k : Nat} (h : LpE w0 w p dp s D n k) : Calls Tryd.prog 19 #[Ptr dp] w (Tells (.int .i64 D.steps) w) := by
  obtain ⟨O, OD, h⟩ := h
  exact dsteps_any h.disk h.ok
/-- A page with one cell of one byte. -/
def pl (no : Nat) (c : UInt8) : List UInt8 := M.pbytes ⟨no, 1, [[c]]⟩
theorem pl_ok {no : Nat} (h : no < 2147483648) (c : UInt8) : (⟨no, 1, [[c]]⟩ : M.Pg).Ok := ⟨h, by show (1 : UInt8) ≠ 0; decide, by show M.taken [[c]] ≤ 244; rw [M.taken_one]; simp⟩
theorem pl_read {no : Nat} (h : no < 2147483648) (c : UInt8) : M.readP (pl no c) = some ⟨no, 1, [[c]]⟩ := M.read_pbytes (pl_ok h c)
theorem pl_len {no : Nat} (h : no < 2147483648) (c : UInt8) : (pl no c).length = 256 := M.len_pbytes (pl_ok h c).room
/-- What plain tells. -/
def PPl (w : World) (bs : List UInt8) (e : Ending) (w' : World) : Prop := ∃ a cap, e = .returned (.slice a 256 cap) ∧ Hid (w'.ownsRow w.heap.size 5 1 (.slice a 256 cap) 256 (S bs) ∧ At w' a bs ∧ 256 ≤ cap ∧ bs.length = 256 ∧ Adds w w')
set_option maxRecDepth 100000 in
theorem gq_one (c : UInt8) (w : World) : GQ ((w.alloc (.cells #[.int .u8 (c.toNat : Int)] 5)).alloc (.cells #[.slice (some ⟨w.heap.size, 0, none⟩) 1 1] 22)) (fun _ => True) ⟨some ⟨w.heap.size + 1, 0, none⟩, 1, [⟨some ⟨w.heap.size, 0, none⟩, [c], 1⟩]⟩ := by
  refine ⟨fun j u hj => ⟨_, _, rfl, trivial, ?_⟩, fun e => (by cases e), fun x hx => ?_⟩
  · match j, hj with
    | 0, hj =>
      obtain rfl : Value.slice (some ⟨w.heap.size, 0, none⟩) 1 1 = u := Option.some.inj hj
      rw [cellOf (heap_alloc2_new w _ _)]
      rfl
  · obtain rfl := List.mem_singleton.1 hx
    refine ⟨fun j u hj => ⟨_, _, rfl, trivial, ?_⟩, fun e => by cases e⟩
    match j, hj with
    | 0, hj =>
      obtain rfl : Value.int .u8 (c.toNat : Int) = u := by simpa [S, B8] using hj
      rw [cellOf (heap_alloc2_old w _ _)]
      rfl
set_option maxRecDepth 100000 in
set_option maxHeartbeats 1000000 in
theorem plain_any (no : Nat) (c : UInt8) (w : World) (h : no < 2147483648) : Calls Tryd.prog 20 #[.int .i64 (no : Int), .int .u8 (c.toNat : Int)] w (PPl w (pl no c)) := by
  have HB := hid (show Calls Tryd.prog 38 #[.agg #[.int .i64 (no : Int), .int .u8 1, .slice (some ⟨w.heap.size + 1, 0, none⟩) 1 1]] ((w.alloc (.cells #[.int .u8 (c.toNat : Int)] 5)).alloc (.cells #[.slice (some ⟨w.heap.size, 0, none⟩) 1 1] 22)) _ from rbytes_any (Q := fun _ => True) no 1 (some ⟨w.heap.size + 1, 0, none⟩) [⟨some ⟨w.heap.size, 0, none⟩, [c], 1⟩] 1 1 rfl _ (gq_one c w) h (by show M.taken [[c]] ≤ 244; rw [M.taken_one]; simp))
  have HL := hid (pl_len h c)
  clear h
  go_enter Tryd.func20, Tryd.ntmps20
  go_wp2_with (go_at_call 38; refine HB.out.mono ?_; rintro e w3 ⟨ra, rc, rfl, H3⟩)
  go_ret
  have hrow : w3.ownsRow _ 5 1 (.slice ra 256 rc) 256 (S (pl no c)) := H3.out.1
  have hA : Adds w w3 := (((Touch.refl _ w).alloc _).alloc _).trans H3.out.2
  obtain ⟨g, cap, e, _, hc⟩ := Own.some hrow (by decide)
  cases e
  refine ⟨_, _, rfl, row_base hrow (fun k hk => ?_), At.own hrow, hc, HL.out, hA⟩
  have := (row_low hrow hk).1
  simp at this
  omega
end Go.Proofs.YtjbdchgadfhffaaDoor

/- What holds of each state of a pool goes on. -/
namespace Go.Proofs.YtjbdchgadfhffaaDoor
open Go.RowKit
namespace F
set_option maxRecDepth 100000 in
theorem sansF_mem {L : List Fr} {k : Int} {f : Fr} : f ∈ sansF L k ↔ f ∈ L ∧ f.no ≠ k := by simp [sansF]
theorem sansF_sub (L : List Fr) (k : Int) : (sansF L k).Sublist L := List.filter_sublist
set_option maxRecDepth 100000 in
theorem sansF_lt {L : List Fr} {f : Fr} (h : f ∈ L) : (sansF L f.no).length < L.length := by
  unfold sansF
  refine Nat.lt_of_le_of_ne (List.length_filter_le _ _) (fun e => ?_)
  have := List.length_filter_eq_length_iff.1 e f h
  simp at this
set_option maxRecDepth 100000 in
theorem out_sub (s : Po) (no : Int) : (out s no).Sublist s.L := by
  unfold out
  split
  · split
    · exact sansF_sub _ _
    · exact List.Sublist.refl _
  · exact List.Sublist.refl _
theorem old_mem {L : List Fr} {f : Fr} (h : old L = some f) : f ∈ L := List.mem_of_find?_eq_some h
theorem at_mem {L : List Fr} {no : Int} {f : Fr} (h : at? L no = some f) : f ∈ L ∧ f.no = no := ⟨List.mem_of_find?_eq_some h, by simpa using List.find?_some h⟩
set_option maxRecDepth 100000 in
theorem Good.held {s : Po} (h : Good s) {f : Fr} (hr : room s f.no = true) (h1 : 0 ≤ f.no ∧ f.no < s.ct) (h2 : ∃ q, M.readP f.now = some q ∧ (q.no : Int) = f.no) (h3 : f.fresh = true → f.dirty = true → ∃ q, M.readP f.was = some q ∧ (q.no : Int) = f.no) : Good (held s f.no f) := by
  have hsub : (sansF (out s f.no) f.no).Sublist s.L := (sansF_sub _ _).trans (out_sub s f.no)
  have hm : ∀ g ∈ (F.held s f.no f).L, g ∈ s.L ∨ g = f := fun g hg => by
    rcases List.mem_append.1 hg with hg | hg
    · exact .inl (hsub.mem hg)
    · exact .inr (List.mem_singleton.1 hg)
  refine ⟨fun g hg => ?_, fun g hg => ?_, fun g hg => ?_, ?_, ?_⟩
  · rcases hm g hg with c | rfl
    · exact h.nos g c
    · exact h1
  · rcases hm g hg with c | rfl
    · exact h.pgs g c
    · exact h2
  · rcases hm g hg with c | rfl
    · exact h.was g c
    · exact h3
  · show (((sansF (out s f.no) f.no ++ [f]).length : Nat) : Int) ≤ s.mo
    rw [List.length_append]
    have hl := h.len
    cases hq : at? s.L f.no with
    | some g =>
      obtain ⟨hg, hgn⟩ := at_mem hq
      have hn : need s f.no = false := by unfold need; rw [hq]; rfl
      have ho : out s f.no = s.L := by unfold out; rw [hn]; rfl
      have := sansF_lt hg
      rw [hgn] at this
      rw [ho]
      simp
      omega
    | none =>
      cases hn : need s f.no with
      | false =>
        have ho : out s f.no = s.L := by unfold out; rw [hn]; rfl
        have hlt : (s.L.length : Int) < s.mo := by
          unfold need at hn
          rw [hq] at hn
          simpa using hn
        have := (sansF_sub s.L f.no).length_le
        rw [ho]
        simp
        omega
      | true =>
        obtain ⟨g, hg⟩ : ∃ g, old s.L = some g := by
          unfold room at hr
          rw [hn] at hr
          exact Option.isSome_iff_exists.1 (by simpa using hr)
        have ho : out s f.no = sansF s.L g.no := by unfold out; rw [hn, hg]; rfl
        have := sansF_lt (old_mem hg)
        have h5 := (sansF_sub (sansF s.L g.no) f.no).length_le
        rw [ho]
        simp
        omega
  · show ((sansF (out s f.no) f.no ++ [f]).map (·.no)).Nodup
    rw [List.map_append, List.nodup_append]
    refine ⟨h.nd.sublist (hsub.map _), by simp, fun x hx z hz e => ?_⟩
    obtain ⟨g, hg, rfl⟩ := List.mem_map.1 hx
    have hz' : z = f.no := by simpa using hz
    exact (sansF_mem.1 hg).2 (by rw [e, hz'])
set_option maxRecDepth 100000 in
theorem Good.upd {s : Po} (h : Good s) (g : Fr → Fr) (hg : ∀ f ∈ s.L, (g f).no = f.no ∧ (g f).now = f.now ∧ ((g f).fresh = true → (g f).dirty = true → f.fresh = true ∧ f.dirty = true ∧ (g f).was = f.was)) : Good { s with L := s.L.map g } := by
  refine ⟨fun f hf => ?_, fun f hf => ?_, fun f hf a b => ?_, ?_, ?_⟩
  · obtain ⟨x, hx, rfl⟩ := List.mem_map.1 hf
    rw [(hg x hx).1]; exact h.nos x hx
  · obtain ⟨x, hx, rfl⟩ := List.mem_map.1 hf
    rw [(hg x hx).1, (hg x hx).2.1]; exact h.pgs x hx
  · obtain ⟨x, hx, rfl⟩ := List.mem_map.1 hf
    obtain ⟨a', b', c'⟩ := (hg x hx).2.2 a b
    rw [(hg x hx).1, c']; exact h.was x hx a' b'
  · show ((s.L.map g).length : Int) ≤ s.mo
    rw [List.length_map]; exact h.len
  · show ((s.L.map g).map (·.no)).Nodup
    have e : (s.L.map g).map (·.no) = s.L.map (·.no) := by
      rw [List.map_map]
      exact List.map_congr_left (fun f hf => (hg f hf).1)
    rw [e]; exact h.nd
set_option maxRecDepth 100000 in
theorem Good.acc {s : Po} (h : Good s) : Good (accS s) := by
  refine h.upd F.acc (fun f _ => ⟨acc_no f, ?_, ?_⟩)
  · unfold F.acc; split <;> rfl
  · unfold F.acc
    cases hf : f.fresh <;> simp [hf]
set_option maxRecDepth 100000 in
theorem Good.fl {s : Po} (h : Good s) (D : dSt) : Good (flS s D) := by
  unfold flS
  split
  · refine h.upd F.cln (fun f _ => ⟨cln_no f, ?_, ?_⟩)
    · unfold F.cln; split <;> rfl
    · unfold F.cln
      cases hf : f.fresh <;> simp [hf]
  · exact h
set_option maxRecDepth 100000 in
theorem Good.put {s : Po} (h : Good s) (no : Int) (bs : List UInt8) : Good (putS s no bs) := by
  unfold putS
  split
  · rename_i hE
    obtain ⟨hin, q, hR, hqn, hroom⟩ : inPool s no = true ∧ ∃ q, M.readP bs = some q ∧ (q.no : Int) = no ∧ room s no = true := by
      unfold putE at hE
      split at hE
      · rename_i hin
        refine ⟨hin, ?_⟩
        split at hE
        · cases hE
        · rename_i q hq
          split at hE
          · cases hE
          · rename_i c
            split at hE
            · exact ⟨q, hq, Classical.byContradiction c, by assumption⟩
            · cases hE
      · cases hE
    refine h.held (f := ⟨no, nw bs, wasB s no, true, wasD s no⟩) hroom (by simpa [inPool] using hin) ⟨q, nw_read hR, hqn⟩ (fun _ hd => ?_)
    show ∃ q, M.readP (wasB s no) = some q ∧ (q.no : Int) = no
    have hd' : wasD s no = true := hd
    unfold wasD at hd'
    cases ha : at? s.L no with
    | none => rw [ha] at hd'; cases hd'
    | some f =>
      rw [ha] at hd'
      have hd2 : f.dirty = true := hd'
      obtain ⟨hf, hfn⟩ := at_mem ha
      have hB : wasB s no = if f.fresh then f.was else if f.dirty then f.now else [] := by unfold wasB; rw [ha]
      rw [hB]
      cases hfr : f.fresh with
      | true => rw [← hfn]; exact h.was f hf hfr hd2
      | false => rw [hd2, ← hfn]; exact h.pgs f hf
  · exact h
set_option maxRecDepth 100000 in
/-- A page of the disk is a page. -/
theorem open_page {bs : List UInt8} {no : Int} (h : M.openE bs no = 0) : ∃ q, M.readP (M.openP bs no) = some q ∧ (q.no : Int) = no := by
  unfold M.openE at h
  unfold M.openP
  split at h
  · cases h
  · rename_i h1
    rw [if_neg h1]
    split at h
    · cases h
    · rename_i h2
      rw [if_neg h2]
      split at h
      · cases h
      · rename_i p hp
        split at h
        · cases h
        · rename_i h3
          simp only [if_neg h3]
          exact ⟨p, M.read_pbytes (M.read_ok hp).1, Classical.byContradiction h3⟩
set_option maxRecDepth 100000 in
theorem Good.get {s : Po} (h : Good s) (D : dSt) (no : Int) : Good (getS s D no) := by
  unfold getS
  split
  · rename_i hE
    unfold getE at hE
    split at hE
    · rename_i hin
      cases ha : at? s.L no with
      | some f =>
        obtain ⟨hf, rfl⟩ := at_mem ha
        have e : getF s D f.no = f := by unfold getF; rw [ha]
        rw [e]
        exact h.held (need_at ha).2 (h.nos f hf) (h.pgs f hf) (h.was f hf)
      | none =>
        rw [ha] at hE
        have hE' : rdE s D no = 0 := hE
        have e : getF s D no = ⟨no, rdB s D no, [], false, false⟩ := by unfold getF; rw [ha]
        rw [e]
        unfold rdE at hE'
        split at hE'
        · rename_i hr
          split at hE'
          · cases hE'
          · exact h.held (f := ⟨no, rdB s D no, [], false, false⟩) hr (by simpa [inPool] using hin) (open_page hE') (fun c => by cases c)
        · cases hE'
    · cases hE
  · exact h
set_option maxRecDepth 100000 in
theorem put_same (s : Po) (no : Int) (bs : List UInt8) : (putS s no bs).fr = s.fr ∧ (putS s no bs).ct = s.ct ∧ (putS s no bs).mo = s.mo := by
  unfold putS
  split <;> exact ⟨rfl, rfl, rfl⟩
set_option maxRecDepth 100000 in
theorem get_same (s : Po) (D : dSt) (no : Int) : (getS s D no).fr = s.fr ∧ (getS s D no).ct = s.ct ∧ (getS s D no).mo = s.mo := by
  unfold getS
  split <;> exact ⟨rfl, rfl, rfl⟩
set_option maxRecDepth 100000 in
theorem fl_same (s : Po) (D : dSt) : (flS s D).fr = s.fr ∧ (flS s D).ct = s.ct ∧ (flS s D).mo = s.mo := by
  unfold flS
  split <;> exact ⟨rfl, rfl, rfl⟩
end F
theorem POk.same {s s' : F.Po} {D D' : dSt} (h : POk s D) (hs : s'.fr = s.fr ∧ s'.ct = s.ct ∧ s'.mo = s.mo) (hD : D'.size = D.size) : POk s' D' :=
  ⟨by rw [hs.1]; exact h.fr0, by rw [hs.2.1]; exact h.ct1, by rw [hs.1, hs.2.1, hD]; exact h.fit, by rw [hD]; exact h.size, by rw [hs.2.2]; exact h.mo1, by rw [hs.2.2]; exact h.mo2⟩
theorem goW_size (f : Nat → Int × List UInt8) : ∀ (r i : Nat) (D : dSt), (goW f r i D).2.size = D.size
  | 0, i, D => by unfold goW; split <;> rfl
  | r + 1, i, D => by
    unfold goW
    split
    · rfl
    · exact goW_size f r (i + 1) _
set_option maxRecDepth 100000 in
theorem fl_size (s : F.Po) (D : dSt) : (F.flX s D).2.size = D.size := by
  unfold F.flX
  split
  · split
    · rfl
    · exact goW_size _ _ _ _
  · rfl
set_option maxRecDepth 100000 in
theorem LpE.good {w0 w : World} {p dp : Nat} {s : F.Po} {D : dSt} {n k : Nat} (h : LpE w0 w p dp s D n k) : F.Good s := by obtain ⟨O, OD, h⟩ := h; exact h.good
set_option maxRecDepth 100000 in
theorem LpE.pok {w0 w : World} {p dp : Nat} {s : F.Po} {D : dSt} {n k : Nat} (h : LpE w0 w p dp s D n k) : POk s D := by obtain ⟨O, OD, h⟩ := h; exact h.pok
set_option maxRecDepth 100000 in
theorem LpE.dok {w0 w : World} {p dp : Nat} {s : F.Po} {D : dSt} {n k : Nat} (h : LpE w0 w p dp s D n k) : DOk D k := by obtain ⟨O, OD, h⟩ := h; exact h.ok
set_option maxRecDepth 100000 in
theorem fl_ok {s : F.Po} {D : dSt} {k : Nat} (h : DOk D k) : DOk (F.flX s D).2 (k + (F.which s F.isDirty).length + 1) := by
  unfold F.flX
  split
  · split
    · exact h.mono (by omega)
    · exact goW_ok h
  · exact h.mono (by omega)
/-- Put, Get, Flush with nothing left to show. -/
theorem lq_put {w0 w : World} {p dp : Nat} {s : F.Po} {D : dSt} {n k : Nat} (h : LpE w0 w p dp s D n k) (hn : n + 1 ≤ 1000000) (no : Int) (a : Option Addr) (bs : List UInt8) (m cap : Nat) (hm : bs.length = m) (hc : m ≤ cap) (hA : At w a bs) :
    Calls Tryd.prog 9 #[Ptr p, .int .i64 no, .slice a m cap] w (PLp w0 p dp (F.putS s no bs) D (n + 1) k (.int .i64 (F.putE s no bs : Int))) := lp_put h hn no a bs m cap hm hc hA (h.good.put no bs) (h.pok.same (F.put_same s no bs) rfl)
theorem lq_get {w0 w : World} {p dp : Nat} {s : F.Po} {D : dSt} {n k : Nat} (h : LpE w0 w p dp s D n k) (hn : n + 1 ≤ 1000000) (hk9 : k ≤ 900) (no : Int) :
    Calls Tryd.prog 8 #[Ptr p, .int .i64 no] w (PLg w0 w p dp (F.getS s D no) D (n + 1) k (F.getE s D no) (F.getB s D no)) := lp_get h hn hk9 no (h.good.get D no) (h.pok.same (F.get_same s D no) rfl)
theorem lq_flush {w0 w : World} {p dp : Nat} {s : F.Po} {D : dSt} {n k : Nat} (h : LpE w0 w p dp s D n k) (hk9 : k + (F.which s F.isDirty).length ≤ 890) :
    Calls Tryd.prog 10 #[Ptr p] w (PLp w0 p dp (F.flS s D) (F.flX s D).2 n (k + (F.which s F.isDirty).length + 1) (.int .i64 (F.flX s D).1)) := lp_flush h (h.good.fl D) (h.pok.same (F.fl_same s D) (fl_size s D)) hk9 (fl_ok h.dok)
end Go.Proofs.YtjbdchgadfhffaaDoor

/- The chapter's example. -/
namespace Go.Proofs.YtjbdchgadfhffaaDoor
open Go.RowKit

/-- Numbers that lie somewhere. -/
def NAt (w : World) (a : Option Addr) (zs : List Int) : Prop := ∀ i (hi : i < zs.length), ∃ b o, a = some ⟨b, o, none⟩ ∧ w.cell? ⟨b, o + i, none⟩ = some (.int .i64 zs[i])
theorem NAt.adds {w w' : World} {a : Option Addr} {zs : List Int} (h : NAt w a zs) (hA : Adds w w') : NAt w' a zs := fun i hi => by
  obtain ⟨b, o, e, hc⟩ := h i hi
  exact ⟨b, o, e, below_adds hA hc⟩
set_option maxRecDepth 100000 in
theorem row_nat {w : World} {B : Nat} {v : Value} {zs : List Int} (h : w.ownsRow B 3 1 v zs.length (I zs)) : ∃ a cap, v = .slice a zs.length cap ∧ NAt w a zs := by
  obtain ⟨a, cap, e, hg⟩ := row_get h
  exact ⟨a, cap, e, fun i hi => by obtain ⟨b, o, e1, _, hc⟩ := hg i hi; exact ⟨b, o, e1, hc⟩⟩
set_option maxRecDepth 100000 in
set_option maxHeartbeats 1000000 in
theorem ints_same (zs : List Int) (n : Nat) (hn : zs.length = n) (hl : n ≤ 10000) (a1 a2 : Option Addr) (k1 k2 : Nat) (w : World) (h1 : NAt w a1 zs) (h2 : NAt w a2 zs) : Calls Tryd.prog 35 #[.slice a1 n k1, .slice a2 n k2] w (Adding (.bool true) w) := by
  have H := hid (And.intro h1 h2)
  have HN := hid hn
  clear h1 h2 hn
  go_enter Tryd.func35, Tryd.ntmps35
  go_wp2_with fail
  go_loopw [5] (fun iv wr => ∃ i : Nat, iv = .int .i64 (i : Int) ∧ i ≤ n ∧ Hid (Adds w wr)) (fun iv _ => n - (intOf iv).toNat)
  case atStart => exact ⟨0, rfl, Nat.zero_le _, Touch.refl _ _⟩
  case round =>
    obtain ⟨i, rfl, hi, HI⟩ := hrel
    by_cases hlt : i < n
    · have hltz : (i : Int) < (n : Int) := by omega
      obtain ⟨b1, o1, e1, c1⟩ := (H.out.1.adds HI.out) i (by rw [HN.out]; exact hlt)
      obtain ⟨b2, o2, e2, c2⟩ := (H.out.2.adds HI.out) i (by rw [HN.out]; exact hlt)
      subst e1
      subst e2
      generalize zs[i]'(by rw [HN.out]; exact hlt) = z at c1 c2
      have hz : (z != z) = false := by simp
      go_upto_region 6 with fail
      go_quiet (fail)
      go_wp2
      go_roundw
      case rel => exact ⟨i + 1, by go_num, by omega, HI.out.trans (adds_drewN _ _)⟩
      case measure => simp [intOf]; omega
    · have hltz : ¬ (i : Int) < (n : Int) := by omega
      go_wp2_with fail
      go_ret
      exact ⟨rfl, HI.out⟩
/-- What opened tells. -/
def POpd (w : World) (mo : Int) (e : Ending) (w' : World) : Prop := ∃ p dp, e = .returned (.tuple #[Ptr dp, Ptr p]) ∧ Hid (LpE w w' p dp ⟨0, 6, mo, []⟩ (dSt.new 6) 0 0)
theorem dnew_ok (n : Int) (k : Nat) (h : 0 < n) : DOk (dSt.new n) k := ⟨Nat.zero_le _, Int.le_refl _, by show (0 : Int) ≤ k; omega, Int.le_refl _, by show (-1 : Int) ≤ _; decide, h⟩
set_option maxRecDepth 100000 in
theorem lp_new {w w1 w2 : World} {dp hb p : Nat} {fr ct mo : Int} {D : dSt} {k : Nat} (hT : Tab w) (hA : Adds w w1) (hd : IsDisk w1 0 dp hb (.slice none 0 0) D) (h1 : w.heap.size ≤ dp) (h2 : w.heap.size ≤ hb) (hk : DOk D k) (hp : IsPool w2 (fun k => w1.heap.size ≤ k ∧ k < w2.heap.size) p dp ⟨fr, ct, mo, []⟩ 0) (hA2 : Adds w1 w2) (hpk : POk ⟨fr, ct, mo, []⟩ D) : LpE w w2 p dp ⟨fr, ct, mo, []⟩ D 0 k := by
  have z1 := hA.size
  have z2 := hA2.size
  have l1 := (Array.getElem?_eq_some_iff.1 hd.box).1
  obtain ⟨es, cl, l2, _⟩ := hd.held
  have l2 := (Array.getElem?_eq_some_iff.1 l2).1
  refine ⟨_, fun k => k = dp ∨ k = hb, hp, ⟨hb, _, hd.adds hA2, .inl rfl, .inr rfl, fun k hk => by cases hk⟩, hk, fun j c c' => ?_, fun j c => ?_, fun j c => ?_, hA.trans hA2, hT, ⟨fun f hf => (by cases hf), fun f hf => (by cases hf), fun f hf => (by cases hf), ?_, List.nodup_nil⟩, hpk⟩
  · rcases c' with rfl | rfl <;> omega
  · rcases c with c | rfl | rfl <;> omega
  · rcases c with c | rfl | rfl <;> omega
  · have := hpk.mo1
    show (0 : Int) ≤ mo
    have : (1 : Int) ≤ mo := this
    omega
set_option maxRecDepth 100000 in
set_option maxHeartbeats 2000000 in
theorem opened_any (mo : Int) (hm : 1 ≤ mo ∧ mo ≤ 256) (w : World) (hT : Tab w) : Calls Tryd.prog 18 #[.int .i64 mo] w (POpd w mo) := by
  have HN := hid (new_yes 6 w w.heap.size (Nat.le_refl _) (by omega) (by omega))
  have hok : F.openOk (dSt.new 6) 0 6 mo = true := by
    exact decide_eq_true ⟨by decide, by decide, by decide, by show (0 : Int) + 6 ≤ 6; decide, hm.1, hm.2⟩
  have HO := hid (fun (w1 : World) (dp hb : Nat) (hd : IsDisk w1 0 dp hb (.slice none 0 0) (dSt.new 6)) => show Calls Tryd.prog 7 #[Ptr dp, .int .i64 0, .int .i64 6, .int .i64 mo] w1 (POpn w1 dp ⟨0, 6, mo, []⟩) from bopen_ok (OD := fun k => k = dp ∨ k = hb) (k := 0) ⟨hb, _, hd, .inl rfl, .inr rfl, fun k hk => by cases hk⟩ (dnew_ok 6 0 (by decide)) (by show (6 : Int) ≤ 4096; decide) 0 6 mo hok)
  have HPk := hid (show POk ⟨0, 6, mo, []⟩ (dSt.new 6) from ⟨Int.le_refl _, by show (1 : Int) ≤ 6; decide, by show (0 : Int) + 6 ≤ 6; decide, by show (6 : Int) ≤ 4096; decide, hm.1, hm.2⟩)
  have HT := hid hT
  clear hT hok hm
  go_enter Tryd.func18, Tryd.ntmps18
  go_wp2_with (first
    | (go_at_call 36; refine HN.out.mono ?_; rintro e w1 ⟨dp, hb, rfl, hp, hhb, hd, hA1⟩; have H1 := hid (And.intro hp (And.intro hhb (And.intro (hd.mono (Nat.zero_le _)) hA1))); clear hd hA1 hp hhb)
    | (go_at_call 7; refine (HO.out w1 dp hb H1.out.2.2.1).mono ?_; rintro e w2 ⟨p, rfl, H2⟩))
  go_ret2
  exact ⟨p, dp, rfl, lp_new HT.out H1.out.2.2.2 H1.out.2.2.1 H1.out.1 H1.out.2.1 (dnew_ok 6 0 (by decide)) H2.out.1 H2.out.2 HPk.out⟩
/-! ### The states of the example -/
set_option maxRecDepth 100000 in
theorem pl_nw {no : Nat} (h : no < 2147483648) (c : UInt8) : F.nw (pl no c) = pl no c := by
  unfold F.nw
  rw [pl_read h c]
  rfl
set_option maxRecDepth 100000 in
theorem put_pl {s : F.Po} {no : Nat} (hno : no < 2147483648) (c : UInt8) (h1 : F.inPool s no = true) (h2 : F.room s no = true) : F.putE s no (pl no c) = 0 ∧ F.putS s no (pl no c) = F.held s no ⟨no, pl no c, F.wasB s no, true, F.wasD s no⟩ := by
  have e : F.putE s no (pl no c) = 0 := by
    unfold F.putE
    rw [h1, pl_read hno]
    simp [h2]
  exact ⟨e, by unfold F.putS; rw [if_pos e, pl_nw hno c]⟩
def wS0 : F.Po := ⟨0, 6, 2, []⟩
def wS1 : F.Po := ⟨0, 6, 2, [⟨0, pl 0 1, [], true, false⟩]⟩
def wS2 : F.Po := ⟨0, 6, 2, [⟨0, pl 0 1, [], true, false⟩, ⟨1, pl 1 1, [], true, false⟩]⟩
def wS3 : F.Po := ⟨0, 6, 2, [⟨0, pl 0 1, [], false, true⟩, ⟨1, pl 1 1, [], false, true⟩]⟩
def wS4 : F.Po := ⟨0, 6, 2, [⟨0, pl 0 1, [], false, false⟩, ⟨1, pl 1 1, [], false, false⟩]⟩
def wS5 : F.Po := ⟨0, 6, 2, [⟨1, pl 1 1, [], false, false⟩, ⟨2, pl 2 5, [], true, false⟩]⟩
def wD0 : dSt := dSt.new 6
def wD3 : dSt := ((wD0.wrote 0 (M.sealP (pl 0 1))).wrote 1 (M.sealP (pl 1 1))).synced
set_option maxRecDepth 100000 in
theorem ws1 : F.putE wS0 0 (pl 0 1) = 0 ∧ F.putS wS0 0 (pl 0 1) = wS1 := by
  obtain ⟨h1, h2⟩ := put_pl (s := wS0) (no := 0) (by decide) 1 rfl rfl
  exact ⟨h1, h2.trans rfl⟩
set_option maxRecDepth 100000 in
theorem ws2 : F.putE wS1 1 (pl 1 1) = 0 ∧ F.putS wS1 1 (pl 1 1) = wS2 := by
  obtain ⟨h1, h2⟩ := put_pl (s := wS1) (no := 1) (by decide) 1 rfl rfl
  exact ⟨h1, h2.trans rfl⟩
theorem wsg : F.getE wS2 wD0 2 = 33 ∧ F.getS wS2 wD0 2 = wS2 ∧ F.getB wS2 wD0 2 = [] := ⟨rfl, rfl, rfl⟩
theorem rise_nil : rise [] = [] := rise_eq (List.Perm.refl _) List.Pairwise.nil
theorem rise_two {a b : Int} (h : a ≤ b) : rise [a, b] = [a, b] := rise_eq (List.Perm.refl _) (by simp [h])
theorem ws3 : F.accS wS2 = wS3 ∧ (F.which wS2 F.isFresh).length = 2 := ⟨rfl, by rw [show F.which wS2 F.isFresh = rise [0, 1] from rfl, length_rise]; rfl⟩
theorem wsd : F.which wS3 F.isDirty = [0, 1] ∧ F.which wS3 F.isFresh = [] := ⟨(show F.which wS3 F.isDirty = rise [0, 1] from rfl).trans (rise_two (by decide)), (show F.which wS3 F.isFresh = rise [] from rfl).trans rise_nil⟩
set_option maxRecDepth 100000 in
theorem ws4 : F.flX wS3 wD0 = (0, wD3) ∧ F.flS wS3 wD0 = wS4 ∧ wD3.steps = 3 := by
  have h1 : F.flX wS3 wD0 = (0, wD3) := by
    unfold F.flX
    rw [wsd.2, if_pos rfl, wsd.1, if_neg (by simp)]
    rfl
  exact ⟨h1, by unfold F.flS; rw [h1]; rfl, rfl⟩
set_option maxRecDepth 100000 in
theorem ws5 : F.putE wS4 2 (pl 2 5) = 0 ∧ F.putS wS4 2 (pl 2 5) = wS5 := by
  obtain ⟨h1, h2⟩ := put_pl (s := wS4) (no := 2) (by decide) 5 rfl rfl
  exact ⟨h1, h2.trans rfl⟩
theorem wsh : F.which wS5 F.isHeld = [1, 2] := (show F.which wS5 F.isHeld = rise [1, 2] from rfl).trans (rise_two (by decide))
theorem wsf : F.getE wS5 wD3 2 = 0 ∧ F.getB wS5 wD3 2 = pl 2 5 := ⟨rfl, rfl⟩
end Go.Proofs.YtjbdchgadfhffaaDoor

/- The chapter's example: the walk. -/
namespace Go.Proofs.YtjbdchgadfhffaaDoor
open Go.RowKit

/-- The pages of the example. -/
def Pls (z y : Int) (bs : List UInt8) : Prop := (z = 0 ∧ y = 1 ∧ bs = pl 0 1) ∨ (z = 1 ∧ y = 1 ∧ bs = pl 1 1) ∨ (z = 2 ∧ y = 5 ∧ bs = pl 2 5)
set_option maxRecDepth 100000 in
theorem plain_r {z y : Int} {bs : List UInt8} (h : Pls z y bs) (w : World) : Calls Tryd.prog 20 #[.int .i64 z, .int .u8 y] w (PPl w bs) := by
  rcases h with ⟨rfl, rfl, rfl⟩ | ⟨rfl, rfl, rfl⟩ | ⟨rfl, rfl, rfl⟩
  · exact plain_any 0 1 w (by decide)
  · exact plain_any 1 1 w (by decide)
  · exact plain_any 2 5 w (by decide)
set_option maxRecDepth 100000 in
theorem nat_two (w : World) (x y : Int) : NAt (w.alloc (.cells #[.int .i64 x, .int .i64 y] 3)) (some ⟨w.heap.size, 0, none⟩) [x, y] := by
  intro i hi
  refine ⟨_, _, rfl, ?_⟩
  rw [cellOf (heap_alloc_new w _)]
  match i, hi with
  | 0, _ => rfl
  | 1, _ => rfl
set_option maxRecDepth 100000 in
set_option maxHeartbeats 8000000 in
theorem works11 (w : World) (hT : Tab w) : Calls Tryd.prog 17 #[] w (Adding (.bool true) w) := by
  have HO := hid (show Calls Tryd.prog 18 #[.int .i64 2] w (POpd w 2) from opened_any 2 (by decide) w hT)
  have HIn := hid (fun (w' : World) (a : Option Addr) (k1 : Nat) (hq : NAt w' a [1, 2]) (b : Nat) (hb : NAt w' (some ⟨b, 0, none⟩) [1, 2]) => show Calls Tryd.prog 35 #[.slice a 2 k1, .slice (some ⟨b, 0, none⟩) 2 2] w' (Adding (.bool true) w') from ints_same [1, 2] 2 rfl (by decide) a (some ⟨b, 0, none⟩) k1 2 w' hq hb)
  unfold Ptr at *
  clear hT
  go_enter Tryd.func17, Tryd.ntmps17
  go_upto_region 2 with (go_at_call 18; refine HO.out.mono ?_; rintro e w1 ⟨p, dp, rfl, HL⟩)
  unfold Ptr at *
  have HP1 := hid (fun (w' : World) (h : LpE w w' p dp wS0 wD0 0 0) (a : Option Addr) (k : Nat) (h1 : At w' a (pl 0 1)) (h2 : 256 ≤ k) (h3 : (pl 0 1).length = 256) => show Calls Tryd.prog 9 #[.pointer (some ⟨p, 0, none⟩), .int .i64 0, .slice a 256 k] w' (PLp w p dp wS1 wD0 1 0 (.int .i64 0)) by
    have q := lq_put h (by decide) 0 a (pl 0 1) 256 k h3 h2 h1
    rw [ws1.1, ws1.2] at q
    exact q)
  have HP2 := hid (fun (w' : World) (h : LpE w w' p dp wS1 wD0 1 0) (a : Option Addr) (k : Nat) (h1 : At w' a (pl 1 1)) (h2 : 256 ≤ k) (h3 : (pl 1 1).length = 256) => show Calls Tryd.prog 9 #[.pointer (some ⟨p, 0, none⟩), .int .i64 1, .slice a 256 k] w' (PLp w p dp wS2 wD0 2 0 (.int .i64 0)) by
    have q := lq_put h (by decide) 1 a (pl 1 1) 256 k h3 h2 h1
    rw [ws2.1, ws2.2] at q
    exact q)
  have HG2 := hid (fun (w' : World) (h : LpE w w' p dp wS2 wD0 2 0) => show Calls Tryd.prog 8 #[.pointer (some ⟨p, 0, none⟩), .int .i64 2] w' (PLg w w' p dp wS2 wD0 3 0 33 []) by
    have q := lq_get h (by decide) (by decide) 2
    rw [wsg.1, wsg.2.1, wsg.2.2] at q
    exact q)
  have HA3 := hid (fun (w' : World) (h : LpE w w' p dp wS2 wD0 3 0) => show Calls Tryd.prog 12 #[.pointer (some ⟨p, 0, none⟩)] w' (PLp w p dp wS3 wD0 3 0 (.int .i64 2)) by
    have q := lp_accept h h.good.acc
    rw [ws3.1, ws3.2] at q
    exact q)
  have HF4 := hid (fun (w' : World) (h : LpE w w' p dp wS3 wD0 3 0) => show Calls Tryd.prog 10 #[.pointer (some ⟨p, 0, none⟩)] w' (PLp w p dp wS4 wD3 3 3 (.int .i64 0)) by
    have q := lq_flush h (by rw [wsd.1]; decide)
    rw [ws4.1, ws4.2.1, wsd.1] at q
    exact q)
  have HS4 := hid (fun (w' : World) (h : LpE w w' p dp wS4 wD3 3 3) => show Calls Tryd.prog 19 #[.pointer (some ⟨dp, 0, none⟩)] w' (Tells (.int .i64 3) w') by
    have q := lp_steps h
    rw [ws4.2.2] at q
    exact q)
  have HP5 := hid (fun (w' : World) (h : LpE w w' p dp wS4 wD3 3 3) (a : Option Addr) (k : Nat) (h1 : At w' a (pl 2 5)) (h2 : 256 ≤ k) (h3 : (pl 2 5).length = 256) => show Calls Tryd.prog 9 #[.pointer (some ⟨p, 0, none⟩), .int .i64 2, .slice a 256 k] w' (PLp w p dp wS5 wD3 4 3 (.int .i64 0)) by
    have q := lq_put h (by decide) 2 a (pl 2 5) 256 k h3 h2 h1
    rw [ws5.1, ws5.2] at q
    exact q)
  have HH5 := hid (fun (w' : World) (h : LpE w w' p dp wS5 wD3 4 3) => show Calls Tryd.prog 16 #[.pointer (some ⟨p, 0, none⟩)] w' (PNums w' [1, 2]) by
    have q := lp_held h
    rw [wsh] at q
    exact q)
  have HG5 := hid (fun (w' : World) (h : LpE w w' p dp wS5 wD3 4 3) => show Calls Tryd.prog 8 #[.pointer (some ⟨p, 0, none⟩), .int .i64 2] w' (PLg w w' p dp (F.getS wS5 wD3 2) wD3 5 3 0 (pl 2 5)) by
    have q := lq_get h (by decide) (by decide) 2
    rw [wsf.1, wsf.2] at q
    exact q)
  have HPl := hid (fun (w' : World) (z y : Int) (bs : List UInt8) (h : Pls z y bs) => plain_r h w')
  go_upto_region 5 with (first
    | (go_at_call 20; refine (HPl.out _ _ _ _ (by first | exact .inl ⟨rfl, rfl, rfl⟩ | exact .inr (.inl ⟨rfl, rfl, rfl⟩))).mono ?_; rintro e wp ⟨pa, pk, rfl, Hp⟩)
    | (go_at_call 9; refine (HP2.out _ (HL1.out.add Hp.out.2.2.2.2) pa pk Hp.out.2.1 Hp.out.2.2.1 Hp.out.2.2.2.1).mono ?_; rintro e w3 ⟨rfl, HL2⟩)
    | (go_at_call 9; refine (HP1.out _ (HL.out.add Hp.out.2.2.2.2) pa pk Hp.out.2.1 Hp.out.2.2.1 Hp.out.2.2.2.1).mono ?_; rintro e w2 ⟨rfl, HL1⟩)
    | (go_at_call 8; refine (HG2.out _ HL2.out).mono ?_; rintro e w4 ⟨gv, rfl, Hg⟩))
  obtain ⟨O4, OD4, hL4, _⟩ := Hg.out.2
  have HL4 := hid (show LpE w w4 p dp wS2 wD0 3 0 from ⟨O4, OD4, hL4⟩)
  clear hL4
  go_upto_region 7 with (first
    | (go_at_call 12; refine (HA3.out _ HL4.out).mono ?_; rintro e w5 ⟨rfl, HL5⟩)
    | (go_at_call 10; refine (HF4.out _ HL5.out).mono ?_; rintro e w6 ⟨rfl, HL6⟩)
    | (go_at_call 19; refine (HS4.out _ HL6.out).mono ?_; rintro e _ ⟨rfl, hw⟩; rw [hw]; clear hw)
    | (go_at_call 20; refine (HPl.out _ _ _ _ (by exact .inr (.inr ⟨rfl, rfl, rfl⟩))).mono ?_; rintro e wp ⟨pa, pk, rfl, Hp⟩)
    | (go_at_call 9; refine (HP5.out _ (HL6.out.add Hp.out.2.2.2.2) pa pk Hp.out.2.1 Hp.out.2.2.1 Hp.out.2.2.2.1).mono ?_; rintro e w7 ⟨rfl, HL7⟩)
    | (go_at_call 16; refine (HH5.out _ HL7.out).mono ?_; rintro e w8 ⟨hv, rfl, Hh⟩; obtain ⟨ha, hk, rfl, hna⟩ := row_nat Hh.out.1; have HNa := hid hna; clear hna)
    | (go_at_call 35; refine (HIn.out _ ha hk (HNa.out.adds ((Touch.refl _ w8).alloc _)) w8.heap.size (nat_two w8 1 2)).mono ?_; rintro e w9 ⟨rfl, hA9⟩; have HA9 := hid hA9; clear hA9))
  have HL9 := hid (HL7.out.add ((Hh.out.2.alloc _).trans HA9.out))
  go_upto_region 8 with (go_at_call 8; refine (HG5.out _ HL9.out).mono ?_; rintro e w10 ⟨gv, rfl, Hg⟩)
  obtain ⟨O10, OD10, hL10, _⟩ := Hg.out.2
  have hl25 : (pl 2 5).length = 256 := pl_len (by decide) 5
  have hrow := Hg.out.1
  rw [hl25] at hrow
  obtain ⟨gg, gk, rfl, _, _⟩ := Own.some hrow (by decide)
  have HAt := hid (At.own hrow)
  have HA10 := hid hL10.adds
  have HCv := hid (fun (w' : World) (a : Option Addr) (k : Nat) (h : At w' a (pl 2 5)) => show (convert 22 9 (.slice a 256 k)).run Tryd.prog w' = .ok (.string ⟨(pl 2 5).toArray⟩) w' by
    have q := conv_at w' a (pl 2 5) k h
    rw [hl25] at q
    exact q)
  have hcv0 := HCv.out w10.drew (some ⟨gg, 0, none⟩) gk (HAt.out.adds (Touch.refl _ w10).drew)
  clear hrow hL10 hl25
  generalize (⟨(pl 2 5).toArray⟩ : ByteArray) = str at *
  have hsl : (str.toList == str.toList) = true := by simp
  go_region_with (go_at_call 20; refine (HPl.out _ _ _ _ (by exact .inr (.inr ⟨rfl, rfl, rfl⟩))).mono ?_; rintro e w11 ⟨pa, pk, rfl, Hp⟩; have hcv1 := HCv.out w11 (some ⟨gg, 0, none⟩) gk (HAt.out.adds ((Touch.refl _ w10).drew.trans Hp.out.2.2.2.2)); have hcv2 := HCv.out w11 pa pk Hp.out.2.1)
  all_goals
    go_wp2
    go_ret
    exact ⟨by first | rfl | (simp only [hsl]; rfl), HA10.out.trans ((Touch.refl _ w10).drew.trans Hp.out.2.2.2.2)⟩
end Go.Proofs.YtjbdchgadfhffaaDoor

/- Pools that are none. -/
namespace Go.Proofs.YtjbdchgadfhffaaDoor
open Go.RowKit
set_option maxRecDepth 100000 in
theorem zeroDiskF (w : World) : (Instr.build 27 #[]).run Tryd.prog w = .ok (.agg #[.int .i64 0, .map none, .slice none 0 0, .int .i64 0, .int .i64 0]) w := by kernel_rfl
set_option maxRecDepth 100000 in
theorem zeroPool (w : World) : (Instr.build 35 #[]).run Tryd.prog w = .ok (.agg #[.pointer none, .int .i64 0, .int .i64 0, .int .i64 0, .map none, .int .i64 0]) w := by kernel_rfl
set_option maxRecDepth 100000 in
set_option maxHeartbeats 4000000 in
theorem nobody11 (fr ct mo : Int) (a : Option Addr) (n cap : Nat) (w : World) (hT : Tab w) : Calls Tryd.prog 3 #[.int .i64 fr, .int .i64 ct, .int .i64 mo, .slice a n cap] w (Adding (.bool true) w) := by
  have HW := hid (fun w' (hA : Adds w w') => works11 w' (hT.adds hA))
  have hzd := zeroDiskF
  have hzl := zeroPool
  clear hT
  go_enter Tryd.func3, Tryd.ntmps3
  go_wp2_with fail
  obtain ⟨w3, hw3⟩ : ∃ w3 : World, w3 = (w.alloc (.cells #[.int .i64 0, .map none, .slice none 0 0, .int .i64 0, .int .i64 0] 27)).alloc (.cells #[.pointer none, .pointer (some ⟨w.heap.size, 0, none⟩)] 23) := ⟨_, rfl⟩
  rw [← hw3]
  have hA3 : Adds w w3 := by rw [hw3]; exact ((Touch.refl _ w).alloc _).alloc _
  have z0 : w3.cell? ⟨w.heap.size, 0, none⟩ = some (.int .i64 0) := by rw [hw3]; simp [go_sem]
  have s0 : w3.cell? ⟨w.heap.size + 1, 0, none⟩ = some (.pointer none) := by rw [hw3]; simp [go_sem]
  have s1 : w3.cell? ⟨w.heap.size + 1, 1, none⟩ = some (.pointer (some ⟨w.heap.size, 0, none⟩)) := by rw [hw3]; simp [go_sem]
  clear hw3
  have HO0 := hid (fun w' => bopen_un (.pointer none) fr ct mo w' (unmade_nil w'))
  have HO1 := hid (fun w' (hA : Adds w3 w') => bopen_un (.pointer (some ⟨w.heap.size, 0, none⟩)) fr ct mo w' (unmade_zero (below_adds hA z0)))
  have HA3 := hid hA3
  have HS := hid (And.intro s0 s1)
  clear hA3 z0 s0 s1
  go_loopw [21] (fun t wr => ∃ k : Nat, k ≤ 2 ∧ t = .int .i64 k ∧ Hid (Adds w3 wr)) (fun t _ => 2 - (intOf t).toNat)
  case atStart => exact ⟨0, by omega, rfl, Touch.refl _ _⟩
  case round =>
    obtain ⟨k, hk, rfl, HI0⟩ := hrel
    obtain ⟨wz, hwz⟩ : ∃ wz, wz = wr := ⟨_, rfl⟩
    rw [← hwz] at HI0 ⊢
    clear hwz
    have s0 := below_adds HI0.out HS.out.1
    have s1 := below_adds HI0.out HS.out.2
    obtain rfl | rfl | rfl : k = 0 ∨ k = 1 ∨ k = 2 := by omega
    · go_wp2_with (first | (go_at_call 7; refine (HO0.out wz).mono ?_; rintro e _ ⟨rfl, hw⟩; rw [hw]; clear hw))
      go_roundw
      case rel => exact ⟨1, by omega, rfl, HI0.out⟩
      case measure => simp [intOf]
    · go_wp2_with (first | (go_at_call 7; refine (HO1.out wz HI0.out).mono ?_; rintro e _ ⟨rfl, hw⟩; rw [hw]; clear hw))
      go_roundw
      case rel => exact ⟨2, by omega, rfl, HI0.out⟩
      case measure => simp [intOf]
    · clear s0 s1
      go_wp2_with fail
      obtain ⟨w4, hw4⟩ : ∃ w4 : World, w4 = (wz.alloc (.cells #[.pointer none, .int .i64 0, .int .i64 0, .int .i64 0, .map none, .int .i64 0] 35)).alloc (.cells #[.pointer none, .pointer (some ⟨wz.heap.size, 0, none⟩)] 29) := ⟨_, rfl⟩
      rw [← hw4]
      have HA4 : Hid (Adds w w4) := by rw [hw4]; exact ((HA3.out.trans HI0.out).alloc _).alloc _
      have y0 : w4.cell? ⟨wz.heap.size, 0, none⟩ = some (.pointer none) := by rw [hw4]; simp [go_sem]
      have q0 : w4.cell? ⟨wz.heap.size + 1, 0, none⟩ = some (.pointer none) := by rw [hw4]; simp [go_sem]
      have q1 : w4.cell? ⟨wz.heap.size + 1, 1, none⟩ = some (.pointer (some ⟨wz.heap.size, 0, none⟩)) := by rw [hw4]; simp [go_sem]
      clear hw4
      have HU0 := hid (fun w' => unpool_nil w')
      have HU1 := hid (fun w' (hA : Adds w4 w') => show Unpool w' (.pointer (some ⟨wz.heap.size, 0, none⟩)) from unpool_zero w' wz.heap.size (below_adds hA y0))
      have HQ := hid (And.intro q0 q1)
      clear y0 q0 q1
      go_loopw [44] (fun t wr => ∃ k : Nat, k ≤ 2 ∧ t = .int .i64 k ∧ Hid (Adds w4 wr)) (fun t _ => 2 - (intOf t).toNat)
      case atStart => exact ⟨0, by omega, rfl, Touch.refl _ _⟩
      case round =>
        obtain ⟨k, hk, rfl, HI⟩ := hrel
        have r0 := below_adds HI.out HQ.out.1
        have r1 := below_adds HI.out HQ.out.2
        obtain rfl | rfl | rfl : k = 0 ∨ k = 1 ∨ k = 2 := by omega
        · go_wp2_with (first
            | (go_at_call 8; refine (get_un _ fr wr (HU0.out wr)).mono ?_; rintro e _ ⟨rfl, hw⟩; rw [hw]; clear hw)
            | (go_at_call 9; refine (put_un _ fr _ wr (HU0.out wr)).mono ?_; rintro e _ ⟨rfl, hw⟩; rw [hw]; clear hw)
            | (go_at_call 10; refine (flush_un _  wr (HU0.out wr)).mono ?_; rintro e _ ⟨rfl, hw⟩; rw [hw]; clear hw)
            | (go_at_call 11; refine (count_un _  wr (HU0.out wr)).mono ?_; rintro e _ ⟨rfl, hw⟩; rw [hw]; clear hw)
            | (go_at_call 12; refine (accept_un _  wr (HU0.out wr)).mono ?_; rintro e _ ⟨rfl, hw⟩; rw [hw]; clear hw)
            | (go_at_call 13; refine (drop_un _  wr (HU0.out wr)).mono ?_; rintro e _ ⟨rfl, hw⟩; rw [hw]; clear hw)
            | (go_at_call 14; refine (fresh_un _  wr (HU0.out wr)).mono ?_; rintro e _ ⟨rfl, hw⟩; rw [hw]; clear hw)
            | (go_at_call 15; refine (dirty_un _  wr (HU0.out wr)).mono ?_; rintro e _ ⟨rfl, hw⟩; rw [hw]; clear hw)
            | (go_at_call 16; refine (held_un _  wr (HU0.out wr)).mono ?_; rintro e _ ⟨rfl, hw⟩; rw [hw]; clear hw))
          go_roundw
          case rel => exact ⟨_, _, _, _, _, _, _, _, _, _, _, _, _, _, _, _, _, _, _, _, _, _, _, _, _, _, _, _, _, _, _, _, _, _, _, _, _, _, _, _, _, _, _, _, _, _, _, _, _, _, _, _, _, _, _, _, _, _, _, _, _, _, ⟨1, by omega, rfl, HI.out⟩, rfl⟩
          case measure => simp [intOf]
        · go_wp2_with (first
            | (go_at_call 8; refine (get_un _ fr wr (HU1.out wr HI.out)).mono ?_; rintro e _ ⟨rfl, hw⟩; rw [hw]; clear hw)
            | (go_at_call 9; refine (put_un _ fr _ wr (HU1.out wr HI.out)).mono ?_; rintro e _ ⟨rfl, hw⟩; rw [hw]; clear hw)
            | (go_at_call 10; refine (flush_un _  wr (HU1.out wr HI.out)).mono ?_; rintro e _ ⟨rfl, hw⟩; rw [hw]; clear hw)
            | (go_at_call 11; refine (count_un _  wr (HU1.out wr HI.out)).mono ?_; rintro e _ ⟨rfl, hw⟩; rw [hw]; clear hw)
            | (go_at_call 12; refine (accept_un _  wr (HU1.out wr HI.out)).mono ?_; rintro e _ ⟨rfl, hw⟩; rw [hw]; clear hw)
            | (go_at_call 13; refine (drop_un _  wr (HU1.out wr HI.out)).mono ?_; rintro e _ ⟨rfl, hw⟩; rw [hw]; clear hw)
            | (go_at_call 14; refine (fresh_un _  wr (HU1.out wr HI.out)).mono ?_; rintro e _ ⟨rfl, hw⟩; rw [hw]; clear hw)
            | (go_at_call 15; refine (dirty_un _  wr (HU1.out wr HI.out)).mono ?_; rintro e _ ⟨rfl, hw⟩; rw [hw]; clear hw)
            | (go_at_call 16; refine (held_un _  wr (HU1.out wr HI.out)).mono ?_; rintro e _ ⟨rfl, hw⟩; rw [hw]; clear hw))
          go_roundw
          case rel => exact ⟨_, _, _, _, _, _, _, _, _, _, _, _, _, _, _, _, _, _, _, _, _, _, _, _, _, _, _, _, _, _, _, _, _, _, _, _, _, _, _, _, _, _, _, _, _, _, _, _, _, _, _, _, _, _, _, _, _, _, _, _, _, _, ⟨2, by omega, rfl, HI.out⟩, rfl⟩
          case measure => simp [intOf]
        · go_wp2_with (first | (go_at_call 17; refine (HW.out wr (HA4.out.trans HI.out)).mono ?_; rintro e w9 ⟨rfl, hA9⟩))
          go_ret
          exact ⟨rfl, (HA4.out.trans HI.out).trans hA9⟩
end Go.Proofs.YtjbdchgadfhffaaDoor
