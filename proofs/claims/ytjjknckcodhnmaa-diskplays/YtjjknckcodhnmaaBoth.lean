/- A disk and the reference's beside one another: what a call does to the one leaves the other as it was. -/
import Derived.Test.YtjjknckcodhnmaaSpoil
import Derived.Test.YtjjknckcodhnmaaRef5
import Derived.Test.YtjjknckcodhnmaaRef6
import Derived.Test.YtjjknckcodhnmaaSynFacts
import Derived.Test.YtjjknckcodhnmaaUn
namespace Go.Proofs.Ytjjknckcodhnmaa
open Go.RowKit

/-- Is block k of one of a disk's kinds? -/
def DBlock (w : World) (k : Nat) : Prop := (∃ c, w.heap[k]? = some (.cells c 53 (0, 0))) ∨ (∃ c, w.heap[k]? = some (.cells c 76 (0, 0))) ∨ ∃ es cl, w.heap[k]? = some (.map es cl)
/-- Is block k of one of the reference's kinds? -/
def RBlock (w : World) (k : Nat) : Prop := (∃ c, w.heap[k]? = some (.cells c 70 (0, 0))) ∨ (∃ c, w.heap[k]? = some (.cells c 9 (0, 0))) ∨ ∃ c, w.heap[k]? = some (.cells c 78 (0, 0))

theorem DBlock.not {w : World} {k : Nat} (h : DBlock w k) : ¬ RBlock w k := by
  rintro (⟨c, h1⟩ | ⟨c, h1⟩ | ⟨c, h1⟩) <;> rcases h with ⟨d, h2⟩ | ⟨d, h2⟩ | ⟨d, e, h2⟩ <;> rw [h1] at h2 <;> simp at h2

theorem own_low {w : World} {B : Nat} {e : TypeId} {size : Nat} {v : Value} {n : Nat} {xs : List Value} (h : w.ownsRow B e size v n xs) {k : Nat} (hk : v.ownBlock = some k) : B ≤ k := by
  rcases h.2 with ⟨rfl, _⟩ | ⟨g, cap, cur, rfl, hb', _, _⟩
  · cases hk
  · obtain rfl : g = k := by simpa [Value.ownBlock] using hk
    exact hb'

theorem IsDisk.blocks {w : World} {B p hb : Nat} {wv : Value} {D : St} (h : IsDisk w B p hb wv D) : (DBlock w p ∧ B ≤ p) ∧ (DBlock w hb ∧ B ≤ hb) ∧ ∀ k, wv.ownBlock = some k → DBlock w k ∧ B ≤ k := by
  obtain ⟨es, cl, h1, _⟩ := h.held
  exact ⟨⟨.inl ⟨_, h.box⟩, h.low.1⟩, ⟨.inr (.inr ⟨es, cl, h1⟩), h.low.2⟩, fun k hk => ⟨.inr (.inl (own_type h.wait hk)), own_low h.wait hk⟩⟩
theorem IsRef.blocks {w : World} {B p : Nat} {hv wv : Value} {D : St} (h : IsRef w B p hv wv D) : (RBlock w p ∧ B ≤ p) ∧ (∀ k, hv.ownBlock = some k → RBlock w k ∧ B ≤ k) ∧ ∀ k, wv.ownBlock = some k → RBlock w k ∧ B ≤ k :=
  ⟨⟨.inl ⟨_, h.box⟩, h.low⟩, fun _ hk => ⟨.inr (.inl (own_type h.held hk)), own_low h.held hk⟩, fun _ hk => ⟨.inr (.inr (own_type h.wait hk)), own_low h.wait hk⟩⟩

/-- Other blocks of the law: none is of the two's kinds. -/
def Others (w : World) (L : List (Nat × Array Value × TypeId)) : Prop := ∀ x ∈ L, w.heap[x.1]? = some (.cells x.2.1 x.2.2 (0, 0)) ∧ x.2.2 ≠ 53 ∧ x.2.2 ≠ 76 ∧ x.2.2 ≠ 70 ∧ x.2.2 ≠ 9 ∧ x.2.2 ≠ 78

/-- A disk in state D, the reference's in state E, other blocks L. -/
structure Play (w0 w : World) (p r : Nat) (D E : St) (L : List (Nat × Array Value × TypeId)) : Prop where
  disk : ∃ hb wv, IsDisk w w0.heap.size p hb wv D
  ref : ∃ hv rv, IsRef w w0.heap.size r hv rv E
  others : Others w L
  adds : Adds w0 w

theorem Others.adds {w w' : World} {L : List (Nat × Array Value × TypeId)} (h : Others w L) (ht : Adds w w') : Others w' L := fun x hx => ⟨Touch.at ht (h x hx).1 id, (h x hx).2⟩
theorem Others.dkept {w w' : World} {B : Nat} {L : List (Nat × Array Value × TypeId)} (h : Others w L) (ht : Touch (fun k => DBlock w k ∧ B ≤ k) w w') : Others w' L := fun x hx => by
  obtain ⟨h1, h2, h3, h4⟩ := h x hx
  refine ⟨Touch.at ht h1 ?_, h2, h3, h4⟩
  rintro ⟨⟨c, e⟩ | ⟨c, e⟩ | ⟨c, d, e⟩, _⟩ <;> rw [h1] at e <;> simp at e
  · exact h2 e.2
  · exact h3 e.2
theorem Others.rkept {w w' : World} {B : Nat} {L : List (Nat × Array Value × TypeId)} (h : Others w L) (ht : Touch (fun k => RBlock w k ∧ B ≤ k) w w') : Others w' L := fun x hx => by
  obtain ⟨h1, h2, h3, h4, h5, h6⟩ := h x hx
  refine ⟨Touch.at ht h1 ?_, h2, h3, h4, h5, h6⟩
  rintro ⟨⟨c, e⟩ | ⟨c, e⟩ | ⟨c, e⟩, _⟩ <;> rw [h1] at e <;> simp at e
  · exact h4 e.2
  · exact h5 e.2
  · exact h6 e.2
theorem Play.adds' {w0 w w' : World} {p r : Nat} {D E : St} {L : List (Nat × Array Value × TypeId)} (h : Play w0 w p r D E L) (ht : Adds w w') : Play w0 w' p r D E L := by
  obtain ⟨hb, wv, hd⟩ := h.disk
  obtain ⟨hv, rv, hr⟩ := h.ref
  exact ⟨⟨hb, wv, hd.adds ht⟩, ⟨hv, rv, hr.adds ht⟩, h.others.adds ht, h.adds.trans ht⟩
theorem Play.none {w0 w : World} {p r : Nat} {D E : St} {L : List (Nat × Array Value × TypeId)} (h : Play w0 w p r D E L) : Play w0 w p r D E [] := ⟨h.disk, h.ref, fun x hx => (by cases hx), h.adds⟩
theorem Play.more {w0 w : World} {p r : Nat} {D E : St} {L : List (Nat × Array Value × TypeId)} (h : Play w0 w p r D E L) (g : Nat) (c : Array Value) (t : TypeId) (hg : w.heap[g]? = some (.cells c t (0, 0)))
    (ht : t ≠ 53 ∧ t ≠ 76 ∧ t ≠ 70 ∧ t ≠ 9 ∧ t ≠ 78) : Play w0 w p r D E ((g, c, t) :: L) :=
  ⟨h.disk, h.ref, fun x hx => by
    rcases List.mem_cons.1 hx with rfl | hx
    · exact ⟨hg, ht⟩
    · exact h.others x hx, h.adds⟩
/-- The disk has turned. -/
theorem Play.turned {w0 w w' : World} {p r hb : Nat} {wv : Value} {D E D' : St} {L : List (Nat × Array Value × TypeId)} (h : Play w0 w p r D E L) {T : Nat → Prop} (ht : Touch T w w') (hT : ∀ k, T k → DBlock w k ∧ w0.heap.size ≤ k) (hd : IsDisk w' w0.heap.size p hb wv D') : Play w0 w' p r D' E L := by
  obtain ⟨hv, rv, hr⟩ := h.ref
  have b := hr.blocks
  have ht' : Touch (fun k => DBlock w k ∧ w0.heap.size ≤ k) w w' := ht.mono (fun k _ => hT k)
  exact ⟨⟨hb, wv, hd⟩, ⟨hv, rv, hr.kept ht' (fun c => c.1.not b.1.1) (fun k hk c => c.1.not (b.2.1 k hk).1) (fun k hk c => c.1.not (b.2.2 k hk).1)⟩, h.others.dkept ht', h.adds.then ht' (fun j hj c => absurd c.2 (by omega))⟩
/-- The reference's has turned. -/
theorem Play.rturned {w0 w w' : World} {p r : Nat} {hv rv : Value} {D E E' : St} {L : List (Nat × Array Value × TypeId)} (h : Play w0 w p r D E L) {T : Nat → Prop} (ht : Touch T w w') (hT : ∀ k, T k → RBlock w k ∧ w0.heap.size ≤ k) (hr : IsRef w' w0.heap.size r hv rv E') : Play w0 w' p r D E' L := by
  obtain ⟨hb, wv, hd⟩ := h.disk
  have b := hd.blocks
  have ht' : Touch (fun k => RBlock w k ∧ w0.heap.size ≤ k) w w' := ht.mono (fun k _ => hT k)
  exact ⟨⟨hb, wv, hd.kept ht' (fun c => b.1.1.not c.1) (fun c => b.2.1.1.not c.1) (fun k hk c => (b.2.2 k hk).1.not c.1)⟩, ⟨hv, rv, hr⟩, h.others.rkept ht', h.adds.then ht' (fun j hj c => absurd c.2 (by omega))⟩

/-- The bounds of a state behind k calls. -/
structure Okay (D : St) (k : Nat) : Prop where
  waits : D.W.length ≤ k
  steps0 : 0 ≤ D.steps
  steps1 : D.steps ≤ k
  left0 : -1 ≤ D.left
  left1 : D.left ≤ 9223372036854775807
  size : 0 < D.size

/-- What a call tells and leaves. -/
def PGo (w0 : World) (p r : Nat) (D E : St) (L : List (Nat × Array Value × TypeId)) (v : Int) (e : Ending) (w' : World) : Prop := e = .returned (.int .i64 v) ∧ Play w0 w' p r D E L

/-! The answers, and the states behind them. -/
def putE (D : St) (i : Int) (bs : List UInt8) : Int := if (0 ≤ i ∧ i < D.size) ∧ bs.length = 256 then (if D.left = 0 then 10 else 0) else 2
def putD (D : St) (i : Int) (bs : List UInt8) : St := if (0 ≤ i ∧ i < D.size) ∧ bs.length = 256 then (if D.left = 0 then D else D.wrote i bs) else D
def syncE (D : St) : Int := if D.left = 0 then 10 else 0
def syncD (D : St) : St := if D.left = 0 then D else D.synced
def cutE (n : Int) : Int := if 0 ≤ n then 0 else 2
def cutD (D : St) (n : Int) : St := if 0 ≤ n then D.cut n else D
def spoilE (D : St) (i a : Int) : Int := if 0 ≤ i ∧ i < D.size ∧ 0 ≤ a ∧ a < 256 then 0 else 2
def spoilD (D : St) (i a : Int) (b : UInt8) : St := if 0 ≤ i ∧ i < D.size ∧ 0 ≤ a ∧ a < 256 then D.spoiled i a.toNat b else D
def loseE (D : St) (torn at_ : Int) : Int := if (0 ≤ torn ∧ torn < D.W.length) ∧ ¬ (0 ≤ at_ ∧ at_ ≤ 256) then 2 else 0

theorem less_ok {l : Int} (h0 : -1 ≤ l) (h1 : l ≤ 9223372036854775807) : -1 ≤ less l ∧ less l ≤ 9223372036854775807 := by unfold less; split <;> omega
theorem Okay.next {D : St} {k : Nat} (h : Okay D k) : Okay D (k + 1) := ⟨by have := h.waits; omega, h.steps0, by have := h.steps1; omega, h.left0, h.left1, h.size⟩
theorem Okay.put {D : St} {k : Nat} (h : Okay D k) (i : Int) (bs : List UInt8) : Okay (putD D i bs) (k + 1) := by
  unfold putD
  split
  · split
    · exact h.next
    · have := h.waits; have := h.steps1; have := h.steps0
      exact ⟨by show (D.W ++ [_]).length ≤ _; rw [List.length_append]; simp; omega, by show 0 ≤ D.steps + 1; omega, by show D.steps + 1 ≤ _; omega, (less_ok h.left0 h.left1).1, (less_ok h.left0 h.left1).2, h.size⟩
  · exact h.next
theorem Okay.sync {D : St} {k : Nat} (h : Okay D k) : Okay (syncD D) (k + 1) := by
  unfold syncD
  split
  · exact h.next
  · have := h.steps1; have := h.steps0
    exact ⟨Nat.zero_le _, by show 0 ≤ D.steps + 1; omega, by show D.steps + 1 ≤ _; omega, (less_ok h.left0 h.left1).1, (less_ok h.left0 h.left1).2, h.size⟩
theorem Okay.cut {D : St} {k : Nat} (h : Okay D k) (n : Int) (hn : n ≤ 9223372036854775807) : Okay (cutD D n) (k + 1) := by
  unfold cutD
  split
  · have h' := h.next
    exact ⟨h'.waits, h'.steps0, h'.steps1, by show -1 ≤ (if D.left = 0 then (0 : Int) else n); split <;> omega, by show (if D.left = 0 then (0 : Int) else n) ≤ _; split <;> omega, h.size⟩
  · exact h.next
theorem Okay.spoil {D : St} {k : Nat} (h : Okay D k) (i a : Int) (b : UInt8) : Okay (spoilD D i a b) (k + 1) := by
  unfold spoilD
  split
  · have h' := h.next
    exact ⟨by show (D.W.map _).length ≤ _; rw [List.length_map]; exact h'.waits, h'.steps0, h'.steps1, h'.left0, h'.left1, h.size⟩
  · exact h.next
theorem Okay.lost {D : St} {k : Nat} (h : Okay D k) (ks : List Bool) (torn at_ : Int) : Okay (D.lost ks torn at_) (k + 1) :=
  ⟨Nat.zero_le _, Int.le_refl _, by show (0 : Int) ≤ _; omega, Int.le_refl _, by show (-1 : Int) ≤ _; decide, h.size⟩

theorem kept_in {w w1 : World} {ka : Option Addr} {ks : List Bool} (h : KeptAt w ka ks) (hA : Adds w w1) : KeptAt w1 ka ks := fun j hj => by
  obtain ⟨b, o, e, hc⟩ := h j hj
  exact ⟨b, o, e, below_adds hA hc⟩

theorem write_play {w0 w : World} {p r k : Nat} {D : St} {L : List (Nat × Array Value × TypeId)} (hP : Play w0 w p r D D L) (hk : k ≤ 25) (ho : Okay D k) (g n : Nat) (bs : List UInt8) (hn : bs.length = n) (hg : (g, (S bs).toArray, (5 : TypeId)) ∈ L) (i : Int) :
    Calls Try.prog 12 #[.pointer (some ⟨p, 0, none⟩), .int .i64 i, .slice (some ⟨g, 0, none⟩) n n] w (PGo w0 p r (putD D i bs) D L (putE D i bs)) := by
  obtain ⟨hb, wv, hd⟩ := hP.disk
  have c0 : w.cell? ⟨p, 0, none⟩ = some (.int .i64 D.size) := cellOf hd.box 0
  by_cases hi : (0 ≤ i ∧ i < D.size) ∧ bs.length = 256
  · have hn' : n = 256 := by rw [← hn]; exact hi.2
    subst hn'
    by_cases hon : D.left = 0
    · refine (write_off p D.size i _ 256 w c0 (by rw [← hon]; exact cellOf hd.box 4) ho.size hi.1).mono ?_
      rintro e w' ⟨rfl, rfl⟩
      unfold PGo putE putD
      rw [if_pos hi, if_pos hi, if_pos hon, if_pos hon]
      exact ⟨rfl, hP⟩
    · have hB : Bytes w g bs := (hP.others _ hg).1
      refine (write_ok w0.heap.size p hb wv D i g 0 256 bs w hd (by have := ho.waits; omega) hi.1 hon hi.2 (bytes_range hB) ho.steps0 (by have := ho.steps1; omega) ho.left0 ho.left1).mono ?_
      rintro e w' ⟨wv', rfl, hd', hT⟩
      unfold PGo putE putD
      rw [if_pos hi, if_pos hi, if_neg hon, if_neg hon]
      have b := hd.blocks
      exact ⟨rfl, hP.turned hT (fun k hk => hk.elim (fun e => by rw [e]; exact b.1) (b.2.2 k)) hd'⟩
  · refine (write_bad p D.size i _ n n w c0 ho.size (by rw [← hn]; exact (Decidable.em (0 ≤ i ∧ i < D.size)).elim (fun h => .inr fun e => hi ⟨h, e⟩) .inl)).mono ?_
    rintro e w' ⟨rfl, rfl⟩
    unfold PGo putE putD
    rw [if_neg hi, if_neg hi]
    exact ⟨rfl, hP⟩

theorem rput_play {w0 w : World} {p r k : Nat} {D E : St} {L : List (Nat × Array Value × TypeId)} (hP : Play w0 w p r E D L) (hk : k ≤ 25) (ho : Okay D k) (bs : List UInt8) (i : Int) :
    Calls Try.prog 13 #[.pointer (some ⟨r, 0, none⟩), .int .i64 i, Str bs] w (PGo w0 p r E (putD D i bs) L (putE D i bs)) := by
  obtain ⟨hv, rv, hr⟩ := hP.ref
  by_cases hi : (0 ≤ i ∧ i < D.size) ∧ bs.length = 256
  · by_cases hon : D.left = 0
    · refine (rput_off w0.heap.size r hv rv D i bs w hr hi.1 hi.2 hon).mono ?_
      rintro e w' ⟨rfl, rfl⟩
      unfold PGo putE putD
      rw [if_pos hi, if_pos hi, if_pos hon, if_pos hon]
      exact ⟨rfl, hP⟩
    · refine (rput_ok w0.heap.size r hv rv D i bs w hr hP.adds.size (by have := ho.waits; omega) hi.1 hi.2 hon ho.steps0 (by have := ho.steps1; omega) ho.left0 ho.left1).mono ?_
      rintro e w' ⟨rv', rfl, hr', hT⟩
      unfold PGo putE putD
      rw [if_pos hi, if_pos hi, if_neg hon, if_neg hon]
      have b := hr.blocks
      exact ⟨rfl, hP.rturned hT (fun k hk => hk.elim (fun e => by rw [e]; exact b.1) (b.2.2 k)) hr'⟩
  · refine (rput_bad w0.heap.size r hv rv D i bs w hr (by exact (Decidable.em (0 ≤ i ∧ i < D.size)).elim (fun h => .inr fun e => hi ⟨h, e⟩) .inl)).mono ?_
    rintro e w' ⟨rfl, rfl⟩
    unfold PGo putE putD
    rw [if_neg hi, if_neg hi]
    exact ⟨rfl, hP⟩

theorem sync_play {w0 w : World} {p r k : Nat} {D : St} {L : List (Nat × Array Value × TypeId)} (hP : Play w0 w p r D D L) (hk : k ≤ 25) (ho : Okay D k) :
    Calls Try.prog 14 #[.pointer (some ⟨p, 0, none⟩)] w (PGo w0 p r (syncD D) D L (syncE D)) := by
  obtain ⟨hb, wv, hd⟩ := hP.disk
  have c0 : w.cell? ⟨p, 0, none⟩ = some (.int .i64 D.size) := cellOf hd.box 0
  by_cases hon : D.left = 0
  · refine (sync_off p D.size w c0 (by rw [← hon]; exact cellOf hd.box 4) ho.size).mono ?_
    rintro e w' ⟨rfl, rfl⟩
    unfold PGo syncE syncD
    rw [if_pos hon, if_pos hon]
    exact ⟨rfl, hP⟩
  · refine (sync_ok w0.heap.size p hb wv D w hd (by have := ho.waits; omega) ho.size hon ho.steps0 (by have := ho.steps1; omega) ho.left0 ho.left1).mono ?_
    rintro e w' ⟨rfl, hd', hT⟩
    unfold PGo syncE syncD
    rw [if_neg hon, if_neg hon]
    have b := hd.blocks
    exact ⟨rfl, hP.turned hT (fun k hk => hk.elim (fun e => by rw [e]; exact b.1) (fun e => by rw [e]; exact b.2.1)) hd'⟩

theorem rsync_play {w0 w : World} {p r k : Nat} {D E : St} {L : List (Nat × Array Value × TypeId)} (hP : Play w0 w p r E D L) (hk : k ≤ 25) (ho : Okay D k) :
    Calls Try.prog 15 #[.pointer (some ⟨r, 0, none⟩)] w (PGo w0 p r E (syncD D) L (syncE D)) := by
  obtain ⟨hv, rv, hr⟩ := hP.ref
  by_cases hon : D.left = 0
  · refine (rsync_off w0.heap.size r hv rv D w hr hon).mono ?_
    rintro e w' ⟨rfl, rfl⟩
    unfold PGo syncE syncD
    rw [if_pos hon, if_pos hon]
    exact ⟨rfl, hP⟩
  · refine (rsync_ok w0.heap.size r hv rv D w hr (by have := ho.waits; omega) hon ho.steps0 (by have := ho.steps1; omega) ho.left0 ho.left1).mono ?_
    rintro e w' ⟨rfl, hr', hT⟩
    unfold PGo syncE syncD
    rw [if_neg hon, if_neg hon]
    have b := hr.blocks
    exact ⟨rfl, hP.rturned hT (fun k hk => hk.elim (fun e => by rw [e]; exact b.1) (b.2.1 k)) hr'⟩

theorem cut_play {w0 w : World} {p r k : Nat} {D : St} {L : List (Nat × Array Value × TypeId)} (hP : Play w0 w p r D D L) (ho : Okay D k) (n : Int) :
    Calls Try.prog 16 #[.pointer (some ⟨p, 0, none⟩), .int .i64 n] w (PGo w0 p r (cutD D n) D L (cutE n)) := by
  obtain ⟨hb, wv, hd⟩ := hP.disk
  by_cases hn : 0 ≤ n
  · refine (cut_ok w0.heap.size p hb wv D n w hd ho.size hn).mono ?_
    rintro e w' ⟨rfl, hd', hT⟩
    unfold PGo cutE cutD
    rw [if_pos hn, if_pos hn]
    have b := hd.blocks
    exact ⟨rfl, hP.turned hT (fun k e => by rw [e]; exact b.1) hd'⟩
  · refine (cut_bad p D.size n w (cellOf hd.box 0) ho.size (by omega)).mono ?_
    rintro e w' ⟨rfl, rfl⟩
    unfold PGo cutE cutD
    rw [if_neg hn, if_neg hn]
    exact ⟨rfl, hP⟩

theorem rcut_play {w0 w : World} {p r : Nat} {D E : St} {L : List (Nat × Array Value × TypeId)} (hP : Play w0 w p r E D L) (n : Int) :
    Calls Try.prog 17 #[.pointer (some ⟨r, 0, none⟩), .int .i64 n] w (PGo w0 p r E (cutD D n) L (cutE n)) := by
  obtain ⟨hv, rv, hr⟩ := hP.ref
  by_cases hn : 0 ≤ n
  · refine (rcut_ok w0.heap.size r hv rv D n w hr hn).mono ?_
    rintro e w' ⟨rfl, hr', hT⟩
    unfold PGo cutE cutD
    rw [if_pos hn, if_pos hn]
    have b := hr.blocks
    exact ⟨rfl, hP.rturned hT (fun k e => by rw [e]; exact b.1) hr'⟩
  · refine (rcut_bad r n w (by omega)).mono ?_
    rintro e w' ⟨rfl, rfl⟩
    unfold PGo cutE cutD
    rw [if_neg hn, if_neg hn]
    exact ⟨rfl, hP⟩

theorem spoil_play {w0 w : World} {p r k : Nat} {D : St} {L : List (Nat × Array Value × TypeId)} (hP : Play w0 w p r D D L) (hk : k ≤ 25) (ho : Okay D k) (i a : Int) (b : UInt8) :
    Calls Try.prog 21 #[.pointer (some ⟨p, 0, none⟩), .int .i64 i, .int .i64 a, .int .u8 (b.toNat : Int)] w (PGo w0 p r (spoilD D i a b) D L (spoilE D i a)) := by
  obtain ⟨hb, wv, hd⟩ := hP.disk
  by_cases h : 0 ≤ i ∧ i < D.size ∧ 0 ≤ a ∧ a < 256
  · obtain ⟨m, rfl⟩ := Int.eq_ofNat_of_zero_le h.1
    obtain ⟨q, rfl⟩ := Int.eq_ofNat_of_zero_le h.2.2.1
    refine (spoil_ok w0.heap.size p hb wv D m q b w hd (by have := ho.waits; omega) h.2.1 (by have := h.2.2.2; omega)).mono ?_
    rintro e w' ⟨rfl, hd', hT⟩
    unfold PGo spoilE spoilD
    rw [if_pos h, if_pos h]
    have b := hd.blocks
    exact ⟨rfl, hP.turned hT (fun k hk => hk.elim (fun e => by rw [e]; exact b.2.1) (b.2.2 k)) hd'⟩
  · refine (spoil_bad p D.size i a _ w (cellOf hd.box 0) ho.size h).mono ?_
    rintro e w' ⟨rfl, rfl⟩
    unfold PGo spoilE spoilD
    rw [if_neg h, if_neg h]
    exact ⟨rfl, hP⟩

theorem rspoil_play {w0 w : World} {p r k : Nat} {D E : St} {L : List (Nat × Array Value × TypeId)} (hP : Play w0 w p r E D L) (hk : k ≤ 25) (ho : Okay D k) (i a : Int) (b : UInt8) :
    Calls Try.prog 22 #[.pointer (some ⟨r, 0, none⟩), .int .i64 i, .int .i64 a, .int .u8 (b.toNat : Int)] w (PGo w0 p r E (spoilD D i a b) L (spoilE D i a)) := by
  obtain ⟨hv, rv, hr⟩ := hP.ref
  by_cases h : 0 ≤ i ∧ i < D.size ∧ 0 ≤ a ∧ a < 256
  · obtain ⟨m, rfl⟩ := Int.eq_ofNat_of_zero_le h.1
    obtain ⟨q, rfl⟩ := Int.eq_ofNat_of_zero_le h.2.2.1
    refine (rspoil_ok w0.heap.size r hv rv D m q b w hr (by have := ho.waits; omega) h.2.1 (by have := h.2.2.2; omega)).mono ?_
    rintro e w' ⟨rfl, hr', hT⟩
    unfold PGo spoilE spoilD
    rw [if_pos h, if_pos h]
    have b := hr.blocks
    exact ⟨rfl, hP.rturned hT (fun k hk => hk.elim (b.2.1 k) (b.2.2 k)) hr'⟩
  · refine (rspoil_bad w0.heap.size r hv rv D i a _ w hr h).mono ?_
    rintro e w' ⟨rfl, rfl⟩
    unfold PGo spoilE spoilD
    rw [if_neg h, if_neg h]
    exact ⟨rfl, hP⟩

/-- What Lose tells and leaves. -/
def PLs (w0 w : World) (v : Int) (D' : St) (e : Ending) (w' : World) : Prop := ∃ x, e = .returned (.tuple #[x, .int .i64 v]) ∧ (v = 0 → ∃ q hb wv, x = .pointer (some ⟨q, 0, none⟩) ∧ IsDisk w' w0.heap.size q hb wv D') ∧ Adds w w'
def PRLs (w0 w : World) (v : Int) (D' : St) (e : Ending) (w' : World) : Prop := ∃ x, e = .returned (.tuple #[x, .int .i64 v]) ∧ (v = 0 → ∃ q hv rv, x = .pointer (some ⟨q, 0, none⟩) ∧ IsRef w' w0.heap.size q hv rv D') ∧ Adds w w'

theorem lose_play {w0 w : World} {p r k : Nat} {D E : St} {L : List (Nat × Array Value × TypeId)} (hP : Play w0 w p r D E L) (hk : k ≤ 25) (ho : Okay D k) (ka : Option Addr) (kc : Nat) (ks : List Bool) (torn at_ : Int) (hks : KeptAt w0 ka ks) (hkn : ks.length ≤ 9223372036854775807) :
    Calls Try.prog 18 #[.pointer (some ⟨p, 0, none⟩), .agg #[.slice ka ks.length kc, .int .i64 torn, .int .i64 at_]] w (PLs w0 w (loseE D torn at_) (D.lost ks torn at_)) := by
  obtain ⟨hb, wv, hd⟩ := hP.disk
  have hw := ho.waits
  by_cases h : (0 ≤ torn ∧ torn < D.W.length) ∧ ¬ (0 ≤ at_ ∧ at_ ≤ 256)
  · refine Calls.mono (lose_bad w0.heap.size p hb wv D ka ks.length kc torn at_ w hd ho.size (by omega) h.1 (by have := h.2; omega)) ?_
    rintro e w' ⟨rfl, hA⟩
    unfold PLs loseE
    rw [if_pos h]
    exact ⟨_, rfl, fun c => (by cases c), hA⟩
  · refine Calls.mono (lose_ok w0.heap.size p hb wv D ka kc ks torn at_ w hd (by omega) ho.size hP.adds.size (kept_in hks hP.adds) hkn (fun c => Decidable.byContradiction fun d => h ⟨c, d⟩)) ?_
    rintro e w' ⟨q, hq, rfl, _, _, hd', hA⟩
    unfold PLs loseE
    rw [if_neg h]
    exact ⟨_, rfl, fun _ => ⟨q, hq, _, rfl, hd'⟩, hA⟩

theorem rlose_play {w0 w : World} {p r k : Nat} {D E : St} {L : List (Nat × Array Value × TypeId)} (hP : Play w0 w p r E D L) (hk : k ≤ 25) (ho : Okay D k) (ka : Option Addr) (kc : Nat) (ks : List Bool) (torn at_ : Int) (hks : KeptAt w0 ka ks) (hkn : ks.length ≤ 9223372036854775807) :
    Calls Try.prog 19 #[.pointer (some ⟨r, 0, none⟩), .agg #[.slice ka ks.length kc, .int .i64 torn, .int .i64 at_]] w (PRLs w0 w (loseE D torn at_) (D.lost ks torn at_)) := by
  obtain ⟨hv, rv, hr⟩ := hP.ref
  have hw := ho.waits
  by_cases h : (0 ≤ torn ∧ torn < D.W.length) ∧ ¬ (0 ≤ at_ ∧ at_ ≤ 256)
  · refine Calls.mono (rlose_bad w0.heap.size r hv rv D ka ks.length kc torn at_ w hr h.1 (by have := h.2; omega)) ?_
    rintro e w' ⟨rfl, hA⟩
    unfold PRLs loseE
    rw [if_pos h]
    exact ⟨_, rfl, fun c => (by cases c), hA⟩
  · refine Calls.mono (rlose_ok w0.heap.size r hv rv D ka kc ks torn at_ w hr (by omega) hP.adds.size (kept_in hks hP.adds) hkn (fun c => Decidable.byContradiction fun d => h ⟨c, d⟩)) ?_
    rintro e w' ⟨q, hq, rfl, _, hd', hA⟩
    unfold PRLs loseE
    rw [if_neg h]
    exact ⟨_, rfl, fun _ => ⟨q, hq, _, rfl, hd'⟩, hA⟩

end Go.Proofs.Ytjjknckcodhnmaa
