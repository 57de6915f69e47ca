/- Texts put together: PBase, PArgs, NArgs, NArgs2. -/
import Derived.Test.YtplppnngmlljnaaRows
import Derived.Test.YtplppnngmlljnaaQ03
import Derived.ProofKit
import Derived.LaidMore
import Derived.OpenShut
import Derived.Stop.Joined
import Derived.SizedLaws
import Derived.Test.YtplppnngmlljnaaQ06
import Derived.Lib.SmallJoins
import Derived.Deep.Grids
import Derived.Test.YtplppnngmlljnaaQ09
import Derived.Test.YtplppnngmlljnaaQ13
/- What every row's frame asks: numbers, floats and bytes that came in. -/
namespace Go.Proofs.Ytplppnngmlljnaa
open Go.ChangeShapes Go.WideShapes Go.ChangeAt Go.RowKit

set_option maxRecDepth 100000 in
theorem own : ownKnob Try.prog.godebug = none := by kernel_rfl
set_option maxRecDepth 100000 in
theorem laidOut : laidOutB Try.prog = true := by kernel_rfl
set_option maxRecDepth 100000 in
theorem c5 : Try.prog.cellsOf 5 = 1 := by kernel_rfl

set_option maxRecDepth 100000 in
/-- Bytes that came in: where they lie. -/
theorem bytes_at {H : Type} {enc : TypeId × Value → H} {W : World} {a : Option Addr} {len cap : Nat} {d : DataW H} {p : List MemPlace} (h1 : DataW.Trod enc Try.prog W 0 (fun _ => true) true 30 (.slice a len cap) d p) :
    ∃ bs : List UInt8, len = bs.length ∧ At W a bs ∧ (a = none → cap = 0) ∧ len ≤ cap ∧ cap ≤ maxLen := by
  obtain ⟨fuel, hf⟩ := h1
  rcases open_ints Try.underlying30 Try.underlying5 c5 hf with ⟨hcs, _⟩ | ⟨x, l, c, zs, hcs, _, hl, hm, hz, _, hcell, hwz⟩
  · simp [Value.cells] at hcs
    obtain ⟨rfl, rfl, rfl⟩ := hcs
    exact ⟨[], rfl, At.nil _ _, fun _ => rfl, Nat.le_refl _, Nat.zero_le _⟩
  · simp [Value.cells] at hcs
    obtain ⟨rfl, rfl, rfl⟩ := hcs
    have hz' : zs.length = cap := by simpa using hz
    refine ⟨(zs.take len).map (fun z => UInt8.ofNat z.toNat), by simp; omega, ?_, (fun e => by cases e), hl, hm⟩
    intro j c hj
    rw [List.getElem?_map, List.getElem?_take] at hj
    split at hj
    · rename_i hjl
      have hjz : j < zs.length := by omega
      have hc := hcell j hjz
      have hzd : zs.getD j 0 = zs[j] := by simp [List.getD, hjz]
      have hw := hwz zs[j] (List.getElem_mem _)
      rw [List.getElem?_eq_getElem hjz] at hj
      simp only [Option.map_some, Option.some.injEq] at hj
      subst hj
      obtain ⟨b, o, sp⟩ := x
      have hsp : sp = none := by
        have hc0 := hcell 0 (by omega)
        have : (⟨b, o, sp⟩ : Addr).add 0 = ⟨b, o, sp⟩ := rfl
        rw [this] at hc0
        cases sp with
        | none => rfl
        | some q => simp [World.cell?] at hc0; split at hc0 <;> simp at hc0
      subst hsp
      refine ⟨b, o, rfl, ?_⟩
      rw [← Addr.add_mid, hc, hzd]
      have hb : 0 ≤ zs[j] ∧ zs[j] ≤ 255 := by simpa [Lit.wf, IntKind.min, IntKind.max, IntKind.signed, IntKind.bits] using hw
      have : ((UInt8.ofNat zs[j].toNat).toNat : Int) = zs[j] := by simp; omega
      rw [this]
    · cases hj
set_option maxRecDepth 100000 in
/-- Bytes that came in have no more than memory has. -/
theorem bytes_sized {H : Type} {enc : TypeId × Value → H} {W : World} {a : Option Addr} {len cap : Nat} {d : DataW H} {p : List MemPlace} (h1 : DataW.Trod enc Try.prog W 0 (fun _ => true) true 30 (.slice a len cap) d p) {ts : List TypeId} {ds : List (DataW H)} (hsz : (DataW.weightsEach Try.prog ts ds).all (· ≤ reachBytes) = true) {j : Nat} (ht : ts[j]? = some 30) (hd : ds[j]? = some d) : len ≤ 140737488351232 := by
  obtain ⟨fuel, hf⟩ := h1
  rcases open_ints Try.underlying30 Try.underlying5 c5 hf with ⟨hcs, _⟩ | ⟨x, l, c, zs, hcs, _, hl, hm, hz, hx, _, _⟩
  · simp [Value.cells] at hcs
    obtain ⟨rfl, rfl, rfl⟩ := hcs
    exact Nat.zero_le _
  · simp [Value.cells] at hcs
    obtain ⟨rfl, rfl, rfl⟩ := hcs
    have hz' : zs.length = cap := by simpa using hz
    have hd' : d = .slice (lits .u8 (zs.take len)) (lits .u8 (zs.drop len)) := congrArg Prod.fst hx
    rw [hd'] at hd
    have := sized_slice hsz ht hd Try.underlying30
    have b5 : Try.prog.bytesOf 5 = 1 := by kernel_rfl
    rw [b5] at this
    simp only [lits, List.length_map, List.length_take, List.length_drop, reachBytes] at this
    omega
end Go.Proofs.Ytplppnngmlljnaa

/- Lists of slices of bytes that came in. -/
namespace Go.Proofs.Ytplppnngmlljnaa
open Go.ChangeShapes Go.WideShapes Go.ChangeAt Go.RowKit

set_option maxRecDepth 100000 in
theorem kB : Try.prog.cellsOf 30 = 1 := by kernel_rfl
set_option maxRecDepth 100000 in
/-- Each has one: a list of them. -/
theorem list_of {β : Type} {P : Nat → β → Prop} : ∀ n, (∀ i, i < n → ∃ x, P i x) → ∃ l : List β, l.length = n ∧ ∀ i x, l[i]? = some x → P i x
  | 0, _ => ⟨[], rfl, fun i x h => by simp at h⟩
  | n + 1, h => by
    obtain ⟨l, hl, hP⟩ := list_of n (fun i hi => h i (by omega))
    obtain ⟨x, hx⟩ := h n (by omega)
    refine ⟨l ++ [x], by simp [hl], fun i y hy => ?_⟩
    rcases Nat.lt_or_ge i n with h1 | h1
    · rw [List.getElem?_append_left (by omega)] at hy
      exact hP i y hy
    · rw [List.getElem?_append_right (by omega)] at hy
      have hlt := (List.getElem?_eq_some_iff.1 hy).1
      simp at hlt
      obtain rfl : i = n := by omega
      rw [show i - l.length = 0 by omega] at hy
      obtain rfl : x = y := by simpa using hy
      exact hx
set_option maxRecDepth 100000 in
/-- A slice that came in: its elements' cells. -/
theorem slice_of {H : Type} {enc : TypeId × Value → H} {W : World} {t e size fuel : Nat} {a : Option Addr} {len cap : Nat} {y : DataW H × List MemPlace} (ht : Try.prog.underlying t = some (.slice e)) (hsz : Try.prog.cellsOf e = size) (hp : 0 < size) (h : DataW.trod enc Try.prog W 0 (fun _ => true) true fuel t [.slice a len cap] = some y) :
    (a = none → cap = 0) ∧ len ≤ maxLen ∧ ∀ j, j < len → ∃ b o, a = some ⟨b, o, none⟩ ∧ ∃ cs n y', cs.length = size ∧ (∀ (i : Nat) v, cs[i]? = some v → W.cell? ⟨b, o + j * size + i, none⟩ = some v) ∧ DataW.trod enc Try.prog W 0 (fun _ => true) true n e cs = some y' := by
  rcases Go.Deep.open_slice ht h with ⟨hcs, _⟩ | ⟨x, l, c, m, n, D, Pl, hcs, _, hl, hm, hmm, _, hx⟩
  · simp at hcs
    obtain ⟨rfl, rfl, rfl⟩ := hcs
    exact ⟨fun _ => rfl, Nat.zero_le _, fun j hj => absurd hj (by omega)⟩
  · simp at hcs
    obtain ⟨rfl, rfl, rfl⟩ := hcs
    simp at hmm
    subst hmm
    refine ⟨fun e => (by cases e), by omega, fun j hj => ?_⟩
    rw [hsz] at hx
    obtain ⟨b, o, sp⟩ := x
    have hsp : sp = none := by
      obtain ⟨cs0, k1, _⟩ := hx 0 (by omega)
      obtain ⟨_, hlen0, hcell0⟩ := World.cells?_some k1
      have hc0 := hcell0 0 (by omega)
      rw [Nat.zero_mul] at hc0
      have e1 : ((⟨b, o, sp⟩ : Addr).add 0).add 0 = ⟨b, o, sp⟩ := rfl
      rw [e1] at hc0
      cases sp with
      | none => rfl
      | some q =>
        rw [List.getElem?_eq_getElem (by omega)] at hc0
        simp [World.cell?] at hc0; split at hc0 <;> simp at hc0
    subst hsp
    obtain ⟨cs', k1, k2⟩ := hx j (by omega)
    obtain ⟨_, hlen, hcell⟩ := World.cells?_some k1
    refine ⟨b, o, rfl, cs', n, _, hlen, fun i v hv => ?_, k2⟩
    have hi : i < size := by rw [← hlen]; exact (List.getElem?_eq_some_iff.1 hv).1
    have := hcell i hi
    rw [Addr.add_mid, Addr.add_mid, hv] at this
    exact this
set_option maxRecDepth 100000 in
/-- A cell that came in. -/
theorem cell_of {H : Type} {enc : TypeId × Value → H} {W : World} {fuel : Nat} {v : Value} {y : DataW H × List MemPlace} (h : DataW.trod enc Try.prog W 0 (fun _ => true) true fuel 30 [v] = some y) : ∃ x : Part, v = .slice x.a x.bs.length x.cap ∧ PQ W (fun _ => True) x ∧ x.bs.length ≤ x.cap := by
  obtain ⟨a, len, cap, rfl⟩ : ∃ a len cap, v = .slice a len cap := by
    rcases Go.Deep.open_slice Try.underlying30 h with ⟨hcs, _⟩ | ⟨x, l, c, m, n, D, Pl, hcs, _⟩
    · exact ⟨_, _, _, by simpa using hcs⟩
    · exact ⟨_, _, _, by simpa using hcs⟩
  obtain ⟨d, p⟩ := y
  have h1 : DataW.Trod enc Try.prog W 0 (fun _ => true) true 30 (.slice a len cap) d p := ⟨fuel, by simpa [Value.cells] using h⟩
  obtain ⟨bs, rfl, hat, hc, hl, _⟩ := bytes_at h1
  exact ⟨⟨a, bs, cap⟩, rfl, ⟨hat.cq (fun _ _ _ => trivial), hc⟩, hl⟩
set_option maxRecDepth 100000 in
/-- A list of cells that came in. -/
theorem cells_at {H : Type} {enc : TypeId × Value → H} {W : World} {a : Option Addr} {len cap : Nat} {d : DataW H} {p : List MemPlace} (h : DataW.Trod enc Try.prog W 0 (fun _ => true) true 23 (.slice a len cap) d p) : ∃ hs : List Part, hs.length = len ∧ GQ W (fun _ => True) ⟨a, cap, hs⟩ ∧ (∀ x ∈ hs, x.bs.length ≤ x.cap) ∧ len ≤ 9223372036854775807 := by
  obtain ⟨fuel, hf⟩ := h
  have hf : DataW.trod enc Try.prog W 0 (fun _ => true) true fuel 23 [.slice a len cap] = some (d, p) := by simpa [Value.cells] using hf
  obtain ⟨h1, h2, h3⟩ := slice_of Try.underlying23 kB (by omega) hf
  obtain ⟨l, hl, hP⟩ := list_of (P := fun j (x : Part) => (∃ b o, a = some ⟨b, o, none⟩ ∧ W.cell? ⟨b, o + j, none⟩ = some (.slice x.a x.bs.length x.cap)) ∧ PQ W (fun _ => True) x ∧ x.bs.length ≤ x.cap) len (fun j hj => by
    obtain ⟨b, o, e, cs, n, y', hl, hc, ht⟩ := h3 j hj
    match cs, hl with
    | [v], _ =>
    obtain ⟨x, rfl, hx⟩ := cell_of ht
    have := hc 0 _ rfl
    rw [Nat.mul_one, Nat.add_zero] at this
    exact ⟨x, ⟨b, o, e, this⟩, hx⟩)
  have mem : ∀ x ∈ l, ∃ k, l[k]? = some x := fun x hx => by
    obtain ⟨k, hk, ek⟩ := List.getElem_of_mem hx
    exact ⟨k, by rw [List.getElem?_eq_getElem hk, ek]⟩
  refine ⟨l, hl, ⟨fun j u hj => ?_, h1, fun x hx => by obtain ⟨k, hk⟩ := mem x hx; exact (hP k x hk).2.1⟩, fun x hx => by obtain ⟨k, hk⟩ := mem x hx; exact (hP k x hk).2.2, by unfold maxLen at h2; omega⟩
  rw [List.getElem?_map] at hj
  cases hx : l[j]? with
  | none => rw [show ({ a := a, cap := cap, l := l } : Pl).l[j]? = l[j]? from rfl, hx] at hj; cases hj
  | some x =>
    rw [show ({ a := a, cap := cap, l := l } : Pl).l[j]? = l[j]? from rfl, hx] at hj
    obtain ⟨⟨b, o, e, hc⟩, _⟩ := hP j x hx
    have e2 : PV x = u := Option.some.inj hj
    subst e2
    exact ⟨b, o, e, trivial, hc⟩
end Go.Proofs.Ytplppnngmlljnaa

/- A node that came in. -/
namespace Go.Proofs.Ytplppnngmlljnaa
open Go.ChangeShapes Go.WideShapes Go.ChangeAt Go.RowKit

theorem kN9 : Try.prog.cellsOf 9 = 1 := by kernel_rfl
theorem kN3 : Try.prog.cellsOf 3 = 1 := by kernel_rfl
theorem kN4 : Try.prog.cellsOf 4 = 1 := by kernel_rfl
theorem kNs : Try.prog.cellsOf 22 = 1 := by kernel_rfl
theorem kNb : Try.prog.cellsOf 23 = 1 := by kernel_rfl
theorem kNi : Try.prog.cellsOf 24 = 1 := by kernel_rfl
theorem kNr : Try.prog.cellsOf 26 = 4 := by kernel_rfl
/-- The shape of a slice that came in. -/
theorem slice_shape {H : Type} {enc : TypeId × Value → H} {W : World} {t e fuel : Nat} {v : Value} {y : DataW H × List MemPlace} (ht : Try.prog.underlying t = some (.slice e)) (h : DataW.trod enc Try.prog W 0 (fun _ => true) true fuel t [v] = some y) : ∃ a len cap, v = .slice a len cap ∧ len ≤ cap := by
  rcases Go.Deep.open_slice ht h with ⟨hcs, _⟩ | ⟨x, l, c, m, n, D, Pl, hcs, _, hl, _⟩
  · exact ⟨_, _, _, by simpa using hcs, Nat.le_refl _⟩
  · exact ⟨_, _, _, by simpa using hcs, hl⟩
/-- Texts that came in. -/
theorem strs_of {H : Type} {enc : TypeId × Value → H} {W : World} {fuel : Nat} {v : Value} {y : DataW H × List MemPlace} (h : DataW.trod enc Try.prog W 0 (fun _ => true) true fuel 22 [v] = some y) : ∃ (a : Option Addr) (c : Nat) (ks : List (List UInt8)), v = .slice a ks.length c ∧ CQ W (fun _ => True) a (Ss ks) ∧ (a = none → c = 0) ∧ ks.length ≤ c := by
  obtain ⟨a, len, cap, rfl, hlc⟩ := slice_shape Try.underlying22 h
  obtain ⟨h1, h2, h3⟩ := slice_of Try.underlying22 kN9 (by decide) h
  obtain ⟨l, hl, hP⟩ := list_of (P := fun j (x : List UInt8) => ∃ b o, a = some ⟨b, o, none⟩ ∧ W.cell? ⟨b, o + j, none⟩ = some (Str x)) len (fun j hj => by
    obtain ⟨b, o, e, cs, n, y', hl, hc, ht⟩ := h3 j hj
    match cs, hl with
    | [v], _ =>
    obtain ⟨s, e2, _⟩ := DataW.trod_string Try.underlying9 ht
    obtain ⟨⟨ts⟩⟩ := s
    obtain rfl : v = .string ⟨⟨ts⟩⟩ := by simpa using e2
    have := hc 0 _ rfl
    rw [Nat.mul_one, Nat.add_zero] at this
    exact ⟨ts, b, o, e, this⟩)
  subst hl
  refine ⟨a, cap, l, rfl, fun j u hj => ?_, h1, hlc⟩
  rw [Ss_get] at hj
  obtain ⟨x, hx, rfl⟩ := Option.map_eq_some_iff.1 hj
  obtain ⟨b, o, e, hc⟩ := hP j x hx
  exact ⟨b, o, e, trivial, hc⟩
/-- Numbers that came in. -/
theorem kids_of {H : Type} {enc : TypeId × Value → H} {W : World} {fuel : Nat} {v : Value} {y : DataW H × List MemPlace} (h : DataW.trod enc Try.prog W 0 (fun _ => true) true fuel 24 [v] = some y) : ∃ (a : Option Addr) (c : Nat) (zs : List Int), v = .slice a zs.length c ∧ CQ W (fun _ => True) a (Is zs) ∧ (a = none → c = 0) ∧ zs.length ≤ c := by
  obtain ⟨a, len, cap, rfl, hlc⟩ := slice_shape Try.underlying24 h
  obtain ⟨h1, h2, h3⟩ := slice_of Try.underlying24 kN3 (by decide) h
  obtain ⟨l, hl, hP⟩ := list_of (P := fun j (x : Int) => ∃ b o, a = some ⟨b, o, none⟩ ∧ W.cell? ⟨b, o + j, none⟩ = some (.int .i64 x)) len (fun j hj => by
    obtain ⟨b, o, e, cs, n, y', hl, hc, ht⟩ := h3 j hj
    match cs, hl with
    | [v], _ =>
    obtain ⟨k, e2, _⟩ := DataW.trod_int Try.underlying3 ht
    obtain rfl : v = .int .i64 k := by simpa using e2
    have := hc 0 _ rfl
    rw [Nat.mul_one, Nat.add_zero] at this
    exact ⟨k, b, o, e, this⟩)
  subst hl
  refine ⟨a, cap, l, rfl, fun j u hj => ?_, h1, hlc⟩
  rw [Is_get] at hj
  obtain ⟨x, hx, rfl⟩ := Option.map_eq_some_iff.1 hj
  obtain ⟨b, o, e, hc⟩ := hP j x hx
  exact ⟨b, o, e, trivial, hc⟩
/-- Slices of bytes that came in. -/
theorem vals_of {H : Type} {enc : TypeId × Value → H} {W : World} {fuel : Nat} {v : Value} {y : DataW H × List MemPlace} (h : DataW.trod enc Try.prog W 0 (fun _ => true) true fuel 23 [v] = some y) : ∃ g : Pl, v = .slice g.a g.l.length g.cap ∧ GQ W (fun _ => True) g ∧ g.l.length ≤ g.cap := by
  obtain ⟨a, len, cap, rfl, hlc⟩ := slice_shape Try.underlying23 h
  obtain ⟨d, p⟩ := y
  have h1 : DataW.Trod enc Try.prog W 0 (fun _ => true) true 23 (.slice a len cap) d p := ⟨fuel, by simpa [Value.cells] using h⟩
  obtain ⟨hs, hl, hg, _⟩ := cells_at h1
  subst hl
  exact ⟨⟨a, cap, hs⟩, rfl, hg, hlc⟩
end Go.Proofs.Ytplppnngmlljnaa

/- A node that came in, and how much memory it takes. -/
namespace Go.Proofs.Ytplppnngmlljnaa
open Go.ChangeShapes Go.WideShapes Go.ChangeAt Go.RowKit

theorem bytesOf9 : Try.prog.bytesOf 9 = 16 := by kernel_rfl
theorem bytesOf3 : Try.prog.bytesOf 3 = 8 := by kernel_rfl
theorem bytesOfB : Try.prog.bytesOf 30 = 24 := by kernel_rfl
theorem weightsAll_mem {H : Type} {P : Program} {e : TypeId} : ∀ {l : List (DataW H)} {d : DataW H} {n : Nat}, d ∈ l → n ∈ d.weights P e → n ∈ DataW.weightsAll P e l
  | d0 :: l, d, n, hd, hn => by
    unfold DataW.weightsAll
    rcases List.mem_cons.1 hd with rfl | hd
    · exact List.mem_append_left _ hn
    · exact List.mem_append_right _ (weightsAll_mem hd hn)
/-- A slice that came in: what it takes. -/
theorem slice_sized {H : Type} {enc : TypeId × Value → H} {W : World} {t e fuel : Nat} {a : Option Addr} {len cap : Nat} {y : DataW H × List MemPlace} (ht : Try.prog.underlying t = some (.slice e)) (h : DataW.trod enc Try.prog W 0 (fun _ => true) true fuel t [.slice a len cap] = some y) {ts : List TypeId} {ds : List (DataW H)} (hsz : (DataW.weightsEach Try.prog ts ds).all (· ≤ reachBytes) = true) {j : Nat} (hts : ts[j]? = some t) (hds : ds[j]? = some y.1) : len * Try.prog.bytesOf e ≤ 140737488351232 := by
  rcases Go.Deep.open_slice ht h with ⟨hcs, _⟩ | ⟨x, l, c, m, n, D, Pl, hcs, _, hl, hm, hmm, hy, hx⟩
  · simp at hcs
    obtain ⟨rfl, rfl, rfl⟩ := hcs
    omega
  · simp at hcs
    obtain ⟨rfl, rfl, rfl⟩ := hcs
    rw [hy] at hds
    have := sized_slice hsz hts hds ht
    rw [List.length_map, List.length_range] at this
    exact Nat.le_trans (Nat.mul_le_mul_right _ (Nat.le_add_right _ _)) this
/-- Each slice of bytes in it. -/
theorem bytes_in {H : Type} {enc : TypeId × Value → H} {W : World} {fuel : Nat} {a : Option Addr} {len cap : Nat} {y : DataW H × List MemPlace} (h : DataW.trod enc Try.prog W 0 (fun _ => true) true fuel 23 [.slice a len cap] = some y) {ts : List TypeId} {ds : List (DataW H)} (hsz : (DataW.weightsEach Try.prog ts ds).all (· ≤ reachBytes) = true) {j : Nat} (hts : ts[j]? = some 23) (hds : ds[j]? = some y.1) :
    ∀ i, i < len → ∃ b o, a = some ⟨b, o, none⟩ ∧ ∃ va n c, W.cell? ⟨b, o + i, none⟩ = some (.slice va n c) ∧ n ≤ 140737488351232 := by
  have h1 := (slice_of Try.underlying23 kB (by decide) h).2.2
  rcases Go.Deep.open_slice Try.underlying23 h with ⟨hcs, _⟩ | ⟨x, l, c, m, n, D, Pl, hcs, _, hl, hm, hmm, hy, hx⟩
  · simp at hcs
    obtain ⟨rfl, rfl, rfl⟩ := hcs
    exact fun i hi => absurd hi (by omega)
  · simp at hcs
    obtain ⟨rfl, rfl, rfl⟩ := hcs
    simp at hmm
    subst hmm
    intro i hi
    obtain ⟨b, o, e, cs, _, _, hcl, hcc, _⟩ := h1 i hi
    obtain rfl : x = ⟨b, o, none⟩ := by simpa using e
    obtain ⟨cs', k1, k2⟩ := hx i (by omega)
    rw [kB] at k1
    obtain ⟨_, hlen', hcell'⟩ := World.cells?_some k1
    match cs, hcl, cs', hlen' with
    | [v], _, [v'], _ =>
    have q1 := hcc 0 v rfl
    have q2 := hcell' 0 (by decide)
    rw [Nat.mul_one] at q1 q2
    rw [Addr.add_mid, Addr.add_mid, q1] at q2
    obtain rfl : v = v' := by simpa using q2
    obtain ⟨va, vn, vc, rfl, _⟩ := slice_shape Try.underlying30 k2
    refine ⟨b, o, rfl, va, vn, vc, by rw [Nat.add_zero] at q1; exact q1, ?_⟩
    have hall : (DataW.weightsEach Try.prog [30] [D i]).all (· ≤ reachBytes) = true := by
      rw [List.all_eq_true] at hsz ⊢
      intro z hz
      refine hsz z (DataW.weights_mem_each hts hds z ?_)
      rw [hy]
      have hz' : z ∈ (D i).weights Try.prog 30 := by simpa [DataW.weightsEach] using hz
      unfold DataW.weights
      rw [Try.underlying23]
      exact List.mem_cons_of_mem _ (List.mem_append_left _ (weightsAll_mem (List.mem_map.2 ⟨i, List.mem_range.2 hi, rfl⟩) hz'))
    have q3 : DataW.Trod enc Try.prog W 0 (fun _ => true) true 30 (.slice va vn vc) (D i) (Pl i) := ⟨_, by simpa [Value.cells] using k2⟩
    exact bytes_sized q3 hall (j := 0) rfl rfl
set_option maxRecDepth 100000 in
/-- A node that came in, with what it takes. -/
theorem open_node2 {H : Type} {enc : TypeId × Value → H} {W : World} {base : Nat} {v : Value} {d : DataW H} {p : List MemPlace} (hval : Value.okWide Try.prog W .any base 26 v) (h : DataW.Trod enc Try.prog W 0 (fun _ => true) true 26 v d p) {ts : List TypeId} {ds : List (DataW H)} (hsz : (DataW.weightsEach Try.prog ts ds).all (· ≤ reachBytes) = true) {j : Nat} (hts : ts[j]? = some 26) (hds : ds[j]? = some d) : ∃ x : NM, v = x.val ∧ NQ W (fun _ => True) x ∧ NBig x := by
  obtain ⟨cs, rfl, hsz4⟩ := okWide_struct Try.underlying26 hval
  rw [kNr] at hsz4
  obtain ⟨l⟩ := cs
  match l, hsz4 with
  | [c0, c1, c2, c3], _ =>
  obtain ⟨fuel, hf⟩ := h
  obtain ⟨y0, y1, y2, y3, m, hd, _, hy0, hy1, hy2, hy3⟩ := Go.Joins.trod_struct4 Try.underlying26 hf
  have hall : (DataW.weightsEach Try.prog [4, 22, 23, 24] [y0.1, y1.1, y2.1, y3.1]).all (· ≤ reachBytes) = true := by
    rw [List.all_eq_true] at hsz ⊢
    intro z hz
    refine hsz z (DataW.weights_mem_each hts hds z ?_)
    rw [show d = .agg [y0.1, y1.1, y2.1, y3.1] from congrArg Prod.fst hd]
    unfold DataW.weights
    rw [Try.underlying26]
    exact hz
  obtain ⟨b, e0, _⟩ := DataW.trod_bool Try.underlying4 hy0
  simp only [Value.cells, kN4, List.drop_zero, List.drop_succ_cons, List.take_succ_cons, List.take_zero, kNs, kNb, kNi, List.cons.injEq, and_true] at e0 hy1 hy2 hy3
  subst e0
  obtain ⟨ka, kc, ks, rfl, k1, k2, k3⟩ := strs_of hy1
  obtain ⟨g, rfl, g1, g2⟩ := vals_of hy2
  obtain ⟨ia, ic, zs, rfl, i1, i2, i3⟩ := kids_of hy3
  have w1 := slice_sized Try.underlying22 hy1 hall (j := 1) rfl rfl
  have w2 := slice_sized Try.underlying23 hy2 hall (j := 2) rfl rfl
  have w3 := slice_sized Try.underlying24 hy3 hall (j := 3) rfl rfl
  have w4 := bytes_in hy2 hall (j := 2) rfl rfl
  rw [bytesOf9] at w1
  rw [bytesOfB] at w2
  rw [bytesOf3] at w3
  refine ⟨⟨b, ka, kc, ks, g, ia, ic, zs⟩, rfl, ⟨k1, k2, k3, g1, g2, i1, i2, i3⟩, ⟨by show ks.length * 16 ≤ _; omega, by show g.l.length * 24 ≤ _; omega, by show zs.length * 8 ≤ _; omega, fun q hq => ?_⟩⟩
  obtain ⟨i, hi, rfl⟩ := List.getElem_of_mem (show q ∈ g.l from hq)
  obtain ⟨b1, o1, ea, hc⟩ := g1.cell hi
  obtain ⟨b2, o2, ea2, va, n, c, hc2, hn⟩ := w4 i hi
  rw [ea] at ea2
  injection ea2 with e1
  injection e1 with e2 e3 _
  subst e2
  subst e3
  rw [hc] at hc2
  injection hc2 with e4
  injection e4 with _ e5 _
  omega
end Go.Proofs.Ytplppnngmlljnaa
