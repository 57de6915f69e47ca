/- Texts put together: FLaw, FGood, FWorks, FLawX. -/
import Derived.Test.YtjlennpoaefllaaGreatDoorQ20
import Derived.Test.YtjlennpoaefllaaGreatDoorQ21
/- A pool and its disk in a law's memory: each call, by their states. -/
namespace Go.Proofs.YtjlennpoaefllaaGreatDoor
open Go.RowKit

/-- A pool p on the disk dp, in the states s and D, both in memory that is new since w0. -/
structure Lp (w0 w : World) (O OD : Nat → Prop) (p dp : Nat) (s : F.Po) (D : dSt) (n k : Nat) : Prop where
  pool : IsPool w O p dp s n
  disk : IsDO w OD dp D
  ok : DOk D k
  apart : ∀ j, O j → ¬ OD j
  low : ∀ j, O j ∨ OD j → w0.heap.size ≤ j
  lt : ∀ j, O j ∨ OD j → j < w.heap.size
  adds : Adds w0 w
  tab : Tab w0
  good : F.Good s
  pok : POk s D
def LpE (w0 w : World) (p dp : Nat) (s : F.Po) (D : dSt) (n k : Nat) : Prop := ∃ O OD, Lp w0 w O OD p dp s D n k
theorem Lp.add {w0 w w' : World} {O OD : Nat → Prop} {p dp : Nat} {s : F.Po} {D : dSt} {n k : Nat} (h : Lp w0 w O OD p dp s D n k) (hA : Adds w w') : Lp w0 w' O OD p dp s D n k :=
  ⟨h.pool.adds hA, h.disk.adds hA, h.ok, h.apart, h.low, fun j c => Nat.lt_of_lt_of_le (h.lt j c) hA.size, h.adds.trans hA, h.tab, h.good, h.pok⟩
set_option maxRecDepth 100000 in
theorem LpE.add {w0 w w' : World} {p dp : Nat} {s : F.Po} {D : dSt} {n k : Nat} (h : LpE w0 w p dp s D n k) (hA : Adds w w') : LpE w0 w' p dp s D n k := by
  obtain ⟨O, OD, h⟩ := h
  exact ⟨O, OD, h.add hA⟩
set_option maxRecDepth 100000 in
theorem LpE.adds {w0 w : World} {p dp : Nat} {s : F.Po} {D : dSt} {n k : Nat} (h : LpE w0 w p dp s D n k) : Adds w0 w := by
  obtain ⟨O, OD, h⟩ := h
  exact h.adds
set_option maxRecDepth 100000 in
/-- The pool's side has moved. -/
theorem Lp.moved {w0 w w' : World} {O OD O' : Nat → Prop} {p dp : Nat} {s s' : F.Po} {D : dSt} {n n' k : Nat} (h : Lp w0 w O OD p dp s D n k) (hp : IsPool w' O' p dp s' n') (hT : Touch O w w') (hO : ∀ j, O' j → O j ∨ (w.heap.size ≤ j ∧ j < w'.heap.size)) (hg : F.Good s') (hk : POk s' D) : Lp w0 w' O' OD p dp s' D n' k := by
  have hz := hT.size
  have hz0 := h.adds.size
  refine ⟨hp, h.disk.touch hT (fun j c c' => h.apart j c' c), h.ok, fun j c c' => ?_, fun j c => ?_, fun j c => ?_, h.adds.then hT (fun j hj c => by have := h.low j (.inl c); omega), h.tab, hg, hk⟩
  · rcases hO j c with c | c
    · exact h.apart j c c'
    · have := h.lt j (.inr c'); omega
  · rcases c with c | c
    · rcases hO j c with c | c
      · exact h.low j (.inl c)
      · omega
    · exact h.low j (.inr c)
  · rcases c with c | c
    · rcases hO j c with c | c
      · exact Nat.lt_of_lt_of_le (h.lt j (.inl c)) hz
      · exact c.2
    · exact Nat.lt_of_lt_of_le (h.lt j (.inr c)) hz
theorem Lp.tabs {w0 w : World} {O OD : Nat → Prop} {p dp : Nat} {s : F.Po} {D : dSt} {n k : Nat} (h : Lp w0 w O OD p dp s D n k) : Tab w := h.tab.adds h.adds
set_option maxRecDepth 100000 in
theorem LpE.len {w0 w : World} {p dp : Nat} {s : F.Po} {D : dSt} {n k : Nat} (h : LpE w0 w p dp s D n k) : s.L.length ≤ 10000 := by
  obtain ⟨O, OD, h⟩ := h
  have := h.good.len
  have := h.pok.mo2
  omega
end Go.Proofs.YtjlennpoaefllaaGreatDoor

/- What holds of each state of a pool goes on. -/
namespace Go.Proofs.YtjlennpoaefllaaGreatDoor
open Go.RowKit
namespace F
set_option maxRecDepth 100000 in
theorem sansF_mem {L : List Fr} {k : Int} {f : Fr} : f ∈ sansF L k ↔ f ∈ L ∧ f.no ≠ k := by simp [sansF]
theorem sansF_sub (L : List Fr) (k : Int) : (sansF L k).Sublist L := List.filter_sublist
set_option maxRecDepth 100000 in
theorem sansF_lt {L : List Fr} {f : Fr} (h : f ∈ L) : (sansF L f.no).length < L.length := by
  unfold sansF
  refine Nat.lt_of_le_of_ne (List.length_filter_le _ _) (fun e => ?_)
  have := List.length_filter_eq_length_iff.1 e f h
  simp at this
set_option maxRecDepth 100000 in
theorem out_sub (s : Po) (no : Int) : (out s no).Sublist s.L := by
  unfold out
  split
  · split
    · exact sansF_sub _ _
    · exact List.Sublist.refl _
  · exact List.Sublist.refl _
theorem old_mem {L : List Fr} {f : Fr} (h : old L = some f) : f ∈ L := List.mem_of_find?_eq_some h
theorem at_mem {L : List Fr} {no : Int} {f : Fr} (h : at? L no = some f) : f ∈ L ∧ f.no = no := ⟨List.mem_of_find?_eq_some h, by simpa using List.find?_some h⟩
set_option maxRecDepth 100000 in
theorem Good.held {s : Po} (h : Good s) {f : Fr} (hr : room s f.no = true) (h1 : 0 ≤ f.no ∧ f.no < s.ct) (h2 : ∃ q, M.readP f.now = some q ∧ (q.no : Int) = f.no) (h3 : f.fresh = true → f.dirty = true → ∃ q, M.readP f.was = some q ∧ (q.no : Int) = f.no) : Good (held s f.no f) := by
  have hsub : (sansF (out s f.no) f.no).Sublist s.L := (sansF_sub _ _).trans (out_sub s f.no)
  have hm : ∀ g ∈ (F.held s f.no f).L, g ∈ s.L ∨ g = f := fun g hg => by
    rcases List.mem_append.1 hg with hg | hg
    · exact .inl (hsub.mem hg)
    · exact .inr (List.mem_singleton.1 hg)
  refine ⟨fun g hg => ?_, fun g hg => ?_, fun g hg => ?_, ?_, ?_⟩
  · rcases hm g hg with c | rfl
    · exact h.nos g c
    · exact h1
  · rcases hm g hg with c | rfl
    · exact h.pgs g c
    · exact h2
  · rcases hm g hg with c | rfl
    · exact h.was g c
    · exact h3
  · show (((sansF (out s f.no) f.no ++ [f]).length : Nat) : Int) ≤ s.mo
    rw [List.length_append]
    have hl := h.len
    cases hq : at? s.L f.no with
    | some g =>
      obtain ⟨hg, hgn⟩ := at_mem hq
      have hn : need s f.no = false := by unfold need; rw [hq]; rfl
      have ho : out s f.no = s.L := by unfold out; rw [hn]; rfl
      have := sansF_lt hg
      rw [hgn] at this
      rw [ho]
      simp
      omega
    | none =>
      cases hn : need s f.no with
      | false =>
        have ho : out s f.no = s.L := by unfold out; rw [hn]; rfl
        have hlt : (s.L.length : Int) < s.mo := by
          unfold need at hn
          rw [hq] at hn
          simpa using hn
        have := (sansF_sub s.L f.no).length_le
        rw [ho]
        simp
        omega
      | true =>
        obtain ⟨g, hg⟩ : ∃ g, old s.L = some g := by
          unfold room at hr
          rw [hn] at hr
          exact Option.isSome_iff_exists.1 (by simpa using hr)
        have ho : out s f.no = sansF s.L g.no := by unfold out; rw [hn, hg]; rfl
        have := sansF_lt (old_mem hg)
        have h5 := (sansF_sub (sansF s.L g.no) f.no).length_le
        rw [ho]
        simp
        omega
  · show ((sansF (out s f.no) f.no ++ [f]).map (·.no)).Nodup
    rw [List.map_append, List.nodup_append]
    refine ⟨h.nd.sublist (hsub.map _), by simp, fun x hx z hz e => ?_⟩
    obtain ⟨g, hg, rfl⟩ := List.mem_map.1 hx
    have hz' : z = f.no := by simpa using hz
    exact (sansF_mem.1 hg).2 (by rw [e, hz'])
set_option maxRecDepth 100000 in
theorem Good.upd {s : Po} (h : Good s) (g : Fr → Fr) (hg : ∀ f ∈ s.L, (g f).no = f.no ∧ (g f).now = f.now ∧ ((g f).fresh = true → (g f).dirty = true → f.fresh = true ∧ f.dirty = true ∧ (g f).was = f.was)) : Good { s with L := s.L.map g } := by
  refine ⟨fun f hf => ?_, fun f hf => ?_, fun f hf a b => ?_, ?_, ?_⟩
  · obtain ⟨x, hx, rfl⟩ := List.mem_map.1 hf
    rw [(hg x hx).1]; exact h.nos x hx
  · obtain ⟨x, hx, rfl⟩ := List.mem_map.1 hf
    rw [(hg x hx).1, (hg x hx).2.1]; exact h.pgs x hx
  · obtain ⟨x, hx, rfl⟩ := List.mem_map.1 hf
    obtain ⟨a', b', c'⟩ := (hg x hx).2.2 a b
    rw [(hg x hx).1, c']; exact h.was x hx a' b'
  · show ((s.L.map g).length : Int) ≤ s.mo
    rw [List.length_map]; exact h.len
  · show ((s.L.map g).map (·.no)).Nodup
    have e : (s.L.map g).map (·.no) = s.L.map (·.no) := by
      rw [List.map_map]
      exact List.map_congr_left (fun f hf => (hg f hf).1)
    rw [e]; exact h.nd
set_option maxRecDepth 100000 in
theorem Good.acc {s : Po} (h : Good s) : Good (accS s) := by
  refine h.upd F.acc (fun f _ => ⟨acc_no f, ?_, ?_⟩)
  · unfold F.acc; split <;> rfl
  · unfold F.acc
    cases hf : f.fresh <;> simp [hf]
set_option maxRecDepth 100000 in
theorem Good.put {s : Po} (h : Good s) (no : Int) (bs : List UInt8) : Good (putS s no bs) := by
  unfold putS
  split
  · rename_i hE
    obtain ⟨hin, q, hR, hqn, hroom⟩ : inPool s no = true ∧ ∃ q, M.readP bs = some q ∧ (q.no : Int) = no ∧ room s no = true := by
      unfold putE at hE
      split at hE
      · rename_i hin
        refine ⟨hin, ?_⟩
        split at hE
        · cases hE
        · rename_i q hq
          split at hE
          · cases hE
          · rename_i c
            split at hE
            · exact ⟨q, hq, Classical.byContradiction c, by assumption⟩
            · cases hE
      · cases hE
    refine h.held (f := ⟨no, nw bs, wasB s no, true, wasD s no⟩) hroom (by simpa [inPool] using hin) ⟨q, nw_read hR, hqn⟩ (fun _ hd => ?_)
    show ∃ q, M.readP (wasB s no) = some q ∧ (q.no : Int) = no
    have hd' : wasD s no = true := hd
    unfold wasD at hd'
    cases ha : at? s.L no with
    | none => rw [ha] at hd'; cases hd'
    | some f =>
      rw [ha] at hd'
      have hd2 : f.dirty = true := hd'
      obtain ⟨hf, hfn⟩ := at_mem ha
      have hB : wasB s no = if f.fresh then f.was else if f.dirty then f.now else [] := by unfold wasB; rw [ha]
      rw [hB]
      cases hfr : f.fresh with
      | true => rw [← hfn]; exact h.was f hf hfr hd2
      | false => rw [hd2, ← hfn]; exact h.pgs f hf
  · exact h
set_option maxRecDepth 100000 in
/-- A page of the disk is a page. -/
theorem open_page {bs : List UInt8} {no : Int} (h : M.openE bs no = 0) : ∃ q, M.readP (M.openP bs no) = some q ∧ (q.no : Int) = no := by
  unfold M.openE at h
  unfold M.openP
  split at h
  · cases h
  · rename_i h1
    rw [if_neg h1]
    split at h
    · cases h
    · rename_i h2
      rw [if_neg h2]
      split at h
      · cases h
      · rename_i p hp
        split at h
        · cases h
        · rename_i h3
          simp only [if_neg h3]
          exact ⟨p, M.read_pbytes (M.read_ok hp).1, Classical.byContradiction h3⟩
set_option maxRecDepth 100000 in
theorem Good.get {s : Po} (h : Good s) (D : dSt) (no : Int) : Good (getS s D no) := by
  unfold getS
  split
  · rename_i hE
    unfold getE at hE
    split at hE
    · rename_i hin
      cases ha : at? s.L no with
      | some f =>
        obtain ⟨hf, rfl⟩ := at_mem ha
        have e : getF s D f.no = f := by unfold getF; rw [ha]
        rw [e]
        exact h.held (need_at ha).2 (h.nos f hf) (h.pgs f hf) (h.was f hf)
      | none =>
        rw [ha] at hE
        have hE' : rdE s D no = 0 := hE
        have e : getF s D no = ⟨no, rdB s D no, [], false, false⟩ := by unfold getF; rw [ha]
        rw [e]
        unfold rdE at hE'
        split at hE'
        · rename_i hr
          split at hE'
          · cases hE'
          · exact h.held (f := ⟨no, rdB s D no, [], false, false⟩) hr (by simpa [inPool] using hin) (open_page hE') (fun c => by cases c)
        · cases hE'
    · cases hE
  · exact h
set_option maxRecDepth 100000 in
theorem put_same (s : Po) (no : Int) (bs : List UInt8) : (putS s no bs).fr = s.fr ∧ (putS s no bs).ct = s.ct ∧ (putS s no bs).mo = s.mo := by
  unfold putS
  split <;> exact ⟨rfl, rfl, rfl⟩
set_option maxRecDepth 100000 in
theorem get_same (s : Po) (D : dSt) (no : Int) : (getS s D no).fr = s.fr ∧ (getS s D no).ct = s.ct ∧ (getS s D no).mo = s.mo := by
  unfold getS
  split <;> exact ⟨rfl, rfl, rfl⟩
end F
theorem POk.same {s s' : F.Po} {D D' : dSt} (h : POk s D) (hs : s'.fr = s.fr ∧ s'.ct = s.ct ∧ s'.mo = s.mo) (hD : D'.size = D.size) : POk s' D' :=
  ⟨by rw [hs.1]; exact h.fr0, by rw [hs.2.1]; exact h.ct1, by rw [hs.1, hs.2.1, hD]; exact h.fit, by rw [hD]; exact h.size, by rw [hs.2.2]; exact h.mo1, by rw [hs.2.2]; exact h.mo2⟩
set_option maxRecDepth 100000 in
theorem LpE.good {w0 w : World} {p dp : Nat} {s : F.Po} {D : dSt} {n k : Nat} (h : LpE w0 w p dp s D n k) : F.Good s := by obtain ⟨O, OD, h⟩ := h; exact h.good
set_option maxRecDepth 100000 in
theorem LpE.pok {w0 w : World} {p dp : Nat} {s : F.Po} {D : dSt} {n k : Nat} (h : LpE w0 w p dp s D n k) : POk s D := by obtain ⟨O, OD, h⟩ := h; exact h.pok
end Go.Proofs.YtjlennpoaefllaaGreatDoor

/- The chapter's example. -/
namespace Go.Proofs.YtjlennpoaefllaaGreatDoor
open Go.RowKit

/-- Numbers that lie somewhere. -/
def NAt (w : World) (a : Option Addr) (zs : List Int) : Prop := ∀ i (hi : i < zs.length), ∃ b o, a = some ⟨b, o, none⟩ ∧ w.cell? ⟨b, o + i, none⟩ = some (.int .i64 zs[i])
theorem NAt.adds {w w' : World} {a : Option Addr} {zs : List Int} (h : NAt w a zs) (hA : Adds w w') : NAt w' a zs := fun i hi => by
  obtain ⟨b, o, e, hc⟩ := h i hi
  exact ⟨b, o, e, below_adds hA hc⟩
/-! ### The states of the example -/
end Go.Proofs.YtjlennpoaefllaaGreatDoor

/- A pool and its disk in a law's memory, with other blocks that are nobody's. -/
namespace Go.Proofs.YtjlennpoaefllaaGreatDoor
open Go.RowKit

/-- Other blocks X, which are nobody's. -/
def LpX (w0 w : World) (X : List (Nat × Obj)) (p dp : Nat) (s : F.Po) (D : dSt) (n k : Nat) : Prop := ∃ O OD, Lp w0 w O OD p dp s D n k ∧ ∀ x ∈ X, w.heap[x.1]? = some x.2 ∧ ¬ (O x.1 ∨ OD x.1)
set_option maxRecDepth 100000 in
theorem LpX.e {w0 w : World} {X : List (Nat × Obj)} {p dp : Nat} {s : F.Po} {D : dSt} {n k : Nat} (h : LpX w0 w X p dp s D n k) : LpE w0 w p dp s D n k := by
  obtain ⟨O, OD, h, _⟩ := h
  exact ⟨O, OD, h⟩
set_option maxRecDepth 100000 in
theorem LpE.x {w0 w : World} {p dp : Nat} {s : F.Po} {D : dSt} {n k : Nat} (h : LpE w0 w p dp s D n k) : LpX w0 w [] p dp s D n k := by
  obtain ⟨O, OD, h⟩ := h
  exact ⟨O, OD, h, fun x hx => by cases hx⟩
set_option maxRecDepth 100000 in
theorem LpX.add {w0 w w' : World} {X : List (Nat × Obj)} {p dp : Nat} {s : F.Po} {D : dSt} {n k : Nat} (h : LpX w0 w X p dp s D n k) (hA : Adds w w') : LpX w0 w' X p dp s D n k := by
  obtain ⟨O, OD, h, hx⟩ := h
  exact ⟨O, OD, h.add hA, fun x q => ⟨by rw [hA.block x.1 (Array.getElem?_eq_some_iff.1 (hx x q).1).1 id]; exact (hx x q).1, (hx x q).2⟩⟩
set_option maxRecDepth 100000 in
theorem LpX.at {w0 w : World} {X : List (Nat × Obj)} {p dp : Nat} {s : F.Po} {D : dSt} {n k : Nat} (h : LpX w0 w X p dp s D n k) (x : Nat × Obj) (hx : x ∈ X) : w.heap[x.1]? = some x.2 := by
  obtain ⟨O, OD, h, q⟩ := h
  exact (q x hx).1
set_option maxRecDepth 100000 in
theorem LpX.fewer {w0 w : World} {X Y : List (Nat × Obj)} {p dp : Nat} {s : F.Po} {D : dSt} {n k : Nat} (h : LpX w0 w X p dp s D n k) (hY : ∀ x ∈ Y, x ∈ X) : LpX w0 w Y p dp s D n k := by
  obtain ⟨O, OD, h, q⟩ := h
  exact ⟨O, OD, h, fun x hx => q x (hY x hx)⟩
set_option maxRecDepth 100000 in
/-- A block that was new a while ago is another one. -/
theorem LpX.more {w0 w w' : World} {X : List (Nat × Obj)} {p dp : Nat} {s : F.Po} {D : dSt} {n k : Nat} (h : LpX w0 w X p dp s D n k) (hA : Adds w w') (g : Nat) (o : Obj) (hg : w'.heap[g]? = some o) (hn : w.heap.size ≤ g) : LpX w0 w' ((g, o) :: X) p dp s D n k := by
  obtain ⟨O, OD, h0, q⟩ := h
  refine ⟨O, OD, h0.add hA, fun x hx => ?_⟩
  rcases List.mem_cons.1 hx with rfl | hx
  · exact ⟨hg, fun c => by have := h0.lt g c; omega⟩
  · exact ⟨by rw [hA.block x.1 (Array.getElem?_eq_some_iff.1 (q x hx).1).1 id]; exact (q x hx).1, (q x hx).2⟩
set_option maxRecDepth 100000 in
/-- The pool's side has moved, the other blocks stay. -/
theorem lx_moved {w0 w w' : World} {O OD O' : Nat → Prop} {X : List (Nat × Obj)} {p dp : Nat} {s s' : F.Po} {D : dSt} {n n' k : Nat} (h : Lp w0 w O OD p dp s D n k) (q : ∀ x ∈ X, w.heap[x.1]? = some x.2 ∧ ¬ (O x.1 ∨ OD x.1)) (hp : IsPool w' O' p dp s' n') (hT : Touch O w w') (hO : ∀ j, O' j → O j ∨ (w.heap.size ≤ j ∧ j < w'.heap.size)) (hg : F.Good s') (hk : POk s' D) : LpX w0 w' X p dp s' D n' k := by
  refine ⟨O', OD, h.moved hp hT hO hg hk, fun x hx => ?_⟩
  have hl := (Array.getElem?_eq_some_iff.1 (q x hx).1).1
  refine ⟨by rw [hT.block x.1 hl (fun c => (q x hx).2 (.inl c))]; exact (q x hx).1, fun c => ?_⟩
  rcases c with c | c
  · rcases hO x.1 c with c | c
    · exact (q x hx).2 (.inl c)
    · omega
  · exact (q x hx).2 (.inr c)
/-- What Get tells. -/
def PLgX (w0 w : World) (X : List (Nat × Obj)) (p dp : Nat) (s : F.Po) (D : dSt) (n k z : Nat) (bs : List UInt8) (e : Ending) (w' : World) : Prop := ∃ v, e = .returned (.tuple #[v, .int .i64 (z : Int)]) ∧ Hid (w'.ownsRow w.heap.size 5 1 v bs.length (S bs) ∧ LpX w0 w' X p dp s D n k)
set_option maxRecDepth 100000 in
theorem lx_get {w0 w : World} {X : List (Nat × Obj)} {p dp : Nat} {s : F.Po} {D : dSt} {n k : Nat} (h : LpX w0 w X p dp s D n k) (hn : n + 1 ≤ 1000000) (hk9 : k ≤ 900) (no : Int) :
    Calls Tryz.prog 114 #[Ptr p, .int .i64 no] w (PLgX w0 w X p dp (F.getS s D no) D (n + 1) k (F.getE s D no) (F.getB s D no)) := by
  obtain ⟨O, OD, h, q⟩ := h
  refine (bget_any h.pool hn (fun j c => h.lt j (.inl c)) h.disk h.ok hk9 h.pok h.tabs no).mono ?_
  rintro e w' ⟨v, rfl, H⟩
  obtain ⟨h0, O', h1, h2, h3, _⟩ := H.out
  exact ⟨v, rfl, h0, lx_moved h q h1 h2 h3 (h.good.get D no) (h.pok.same (F.get_same s D no) rfl)⟩
set_option maxRecDepth 100000 in
theorem lx_put {w0 w : World} {X : List (Nat × Obj)} {p dp : Nat} {s : F.Po} {D : dSt} {n k : Nat} (h : LpX w0 w X p dp s D n k) (hn : n + 1 ≤ 1000000) (no : Int) (a : Option Addr) (bs : List UInt8) (m cap : Nat) (hm : bs.length = m) (hc : m ≤ cap) (hA : At w a bs) :
    Calls Tryz.prog 53 #[Ptr p, .int .i64 no, .slice a m cap] w (fun e w' => e = .returned (.int .i64 (F.putE s no bs : Int)) ∧ Hid (LpX w0 w' X p dp (F.putS s no bs) D (n + 1) k)) := by
  obtain ⟨O, OD, h, q⟩ := h
  refine (bput_any h.pool hn no a bs m cap hm hc hA h.tabs).mono ?_
  rintro e w' ⟨rfl, H⟩
  obtain ⟨O', h1, h2, h3⟩ := H.out
  exact ⟨rfl, lx_moved h q h1 h2 h3 (h.good.put no bs) (h.pok.same (F.put_same s no bs) rfl)⟩
/-- Numbers that lie in a block that is nobody's. -/
def AgX (X : List (Nat × Obj)) (v : Value) (zs : List Int) : Prop := ∃ a cap, v = .slice a zs.length cap ∧ ∀ i (hi : i < zs.length), ∃ b o cs fr, a = some ⟨b, o, none⟩ ∧ (b, Obj.cells cs 3 fr) ∈ X ∧ cs[o + i]? = some (.int .i64 zs[i])
theorem AgX.nil (X : List (Nat × Obj)) : AgX X (.slice none 0 0) [] := ⟨none, 0, rfl, fun i hi => by cases hi⟩
set_option maxRecDepth 100000 in
theorem AgX.nat {w0 w : World} {X : List (Nat × Obj)} {p dp : Nat} {s : F.Po} {D : dSt} {n k : Nat} {v : Value} {zs : List Int} (h : AgX X v zs) (hx : LpX w0 w X p dp s D n k) : ∃ a cap, v = .slice a zs.length cap ∧ NAt w a zs := by
  obtain ⟨a, cap, e, hg⟩ := h
  refine ⟨a, cap, e, fun i hi => ?_⟩
  obtain ⟨b, o, cs, fr, ea, hm, hc⟩ := hg i hi
  exact ⟨b, o, ea, by rw [cellOf (hx.at _ hm)]; exact hc⟩
set_option maxRecDepth 100000 in
theorem AgX.nat2 {w0 w : World} {X : List (Nat × Obj)} {p dp : Nat} {s : F.Po} {D : dSt} {n k : Nat} {a : Option Addr} {m cap : Nat} {zs : List Int} (h : AgX X (.slice a m cap) zs) (hx : LpX w0 w X p dp s D n k) : NAt w a zs ∧ zs.length = m := by
  obtain ⟨a', cap', e, hg⟩ := h.nat hx
  cases e
  exact ⟨hg, rfl⟩
end Go.Proofs.YtjlennpoaefllaaGreatDoor
