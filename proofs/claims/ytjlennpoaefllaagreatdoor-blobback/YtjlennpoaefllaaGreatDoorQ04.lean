/- Texts put together: Order, PMath. -/
import Derived.OrdersHeld
import Derived.RegionTactic
import Derived.Test.YtjlennpoaefllaaGreatDoorQ01
/- A region that draws its order: the condition on the world is narrowed behind each call, so that what a call made is read first. -/
namespace Go.Proofs.YtjlennpoaefllaaGreatDoor

section
variable {P : Program} {ops : Array Oper} {Q : Exit → Act → World → Prop} {md : Region.Mode} {S : World → Prop}

/-- A narrower condition serves. -/
theorem H_narrow {S' : World → Prop} (hS : ∀ w, S' w → S w) : ∀ (fuel : Nat) (listed : Array Bool) (a : Act) (w : World), wpAnyH P md ops Q S' fuel listed a w → wpAnyH P md ops Q S fuel listed a w
  | 0, _, _, _, h => h
  | fuel + 1, _, _, _, h => ⟨h.1, fun i hi => wpOp_mono (fun a' w' h' => ⟨hS w' h'.1, H_narrow hS fuel _ a' w' h'.2⟩) (h.2 i hi)⟩
/-- Number i is taken first; the place where its value goes written out. -/
theorem H_put {i : Nat} {oi : Oper} (d : Nat) {v : Value} {fuel : Nat} {listed : Array Bool} {a : Act} {w : World} (hi : ops[i]? = some oi) (hd : oi.dst = some d)
    (hs : Region.noSelect ops = true) (hf : Region.free md ops listed i = true) (hr : (Region.ready md ops listed).contains i = true)
    (hQ : ∀ c a w, Q (.panic c) (a.put oi.dst v) w → Q (.panic c) a w) (hy : YieldsIf P ops S oi v a) (hS : S w)
    (h : wpAnyH P md ops Q S fuel (listed.setIfInBounds i true) (a.put (some d) v) w) : wpAnyH P md ops Q S (fuel + 1) listed a w :=
  wpAnyH_take hi hs hf hr hQ hy hS (by rw [hd]; exact h)
/-- A call comes up alone: by its contract; behind it another condition holds. -/
theorem H_call {i : Nat} {o : Oper} (d f : Nat) (args : Array Value) {fuel : Nat} {listed : Array Bool} {a : Act} {w : World} (hr : Region.ready md ops listed = [i]) (ho : ops[i]? = some o) (hd : o.dst = some d)
    (hw : Region.wanted o (yielded ops a.tmps) = true) (hx : (execOp a.eval o).run P w = .ok (.enter f args) w) {R : Ending → World → Prop} (hc : Calls P f args w R)
    (h : ∀ e w', R e w' → ∃ (v : Value) (S' : World → Prop), e = .returned v ∧ S' w' ∧ (∀ w, S' w → S w) ∧ wpAnyH P md ops Q S' fuel (listed.setIfInBounds i true) (a.put (some d) v) w') : wpAnyH P md ops Q S (fuel + 1) listed a w := by
  refine wpAnyH_all hr (by simp) (fun j hj => ?_)
  obtain rfl := List.mem_singleton.1 hj
  refine wpOp_step ho (fun K' hK => ?_)
  rw [if_pos hw]
  unfold Oper.wp
  rw [hx]
  refine hc.mono fun e w' hR => ?_
  obtain ⟨v, S', rfl, h1, h2, h3⟩ := h e w' hR
  refine hK _ _ ⟨h2 w' h1, H_narrow h2 _ _ _ _ ?_⟩
  rw [hd]; exact h3
/-- The beginning. -/
theorem H_begin {id : Nat} {a : Act} {w : World} (hm : P.follows .mixedOrders = true) (h : wpAnyH P .any ops Q S ops.size (Array.replicate ops.size false) a w.drew) : (Code.region id ops true).wp P Q a w := wp_region_held hm h
end
end Go.Proofs.YtjlennpoaefllaaGreatDoor

/- Pages by definition: what they are as bytes, and what bytes are as a page. -/
namespace Go.Proofs.YtjlennpoaefllaaGreatDoor.M

/-- Where cells end, counted from b on, as bytes. -/
def ends : Nat → List (List UInt8) → List UInt8
  | _, [] => []
  | b, c :: l => fix (b + c.length) 2 ++ ends (b + c.length) l
theorem len_ends : ∀ (l : List (List UInt8)) (b : Nat), (ends b l).length = 2 * l.length
  | [], _ => rfl
  | c :: l, b => by rw [ends, List.length_append, len_fix, len_ends l, List.length_cons]; omega
theorem ends_snoc : ∀ (l : List (List UInt8)) (b : Nat) (c : List UInt8), ends b (l ++ [c]) = ends b l ++ fix (b + l.flatten.length + c.length) 2
  | [], b, c => by simp [ends]
  | d :: l, b, c => by
    rw [List.cons_append, ends, ends_snoc l, ends, List.append_assoc, List.flatten_cons, List.length_append]
    congr 3
    omega
theorem ends_app : ∀ (l : List (List UInt8)) (b : Nat) (m : List (List UInt8)), ends b (l ++ m) = ends b l ++ ends (b + l.flatten.length) m
  | [], b, m => by simp [ends]
  | d :: l, b, m => by
    rw [List.cons_append, ends, ends_app l, ends, List.append_assoc, List.flatten_cons, List.length_append, Nat.add_assoc]
/-- How many bytes of a page's room cells take. -/
def taken (l : List (List UInt8)) : Nat := 2 * l.length + l.flatten.length
set_option maxRecDepth 100000 in
theorem taken_app (l m : List (List UInt8)) : taken (l ++ m) = taken l + taken m := by
  simp only [taken, List.length_append, List.flatten_append]; omega
set_option maxRecDepth 100000 in
theorem taken_one (c : List UInt8) : taken [c] = 2 + c.length := by simp [taken]
set_option maxRecDepth 100000 in
theorem taken_take (l : List (List UInt8)) (k : Nat) : taken (l.take k) + taken (l.drop k) = taken l := by
  rw [← taken_app, List.take_append_drop]
/-- A page. -/
structure Pg where
  no : Nat
  kind : UInt8
  cells : List (List UInt8)
structure Pg.Ok (p : Pg) : Prop where
  no : p.no < 2147483648
  kind : p.kind ≠ 0
  room : taken p.cells ≤ 244
set_option maxRecDepth 100000 in
theorem Pg.Ok.count {p : Pg} (h : p.Ok) : p.cells.length ≤ 122 ∧ p.cells.flatten.length ≤ 244 := by
  have := h.room
  unfold taken at this
  omega
/-- The room of a page with these cells. -/
def room (l : List (List UInt8)) : List UInt8 := ends 0 l ++ (l.flatten ++ List.replicate (244 - taken l) 0)
set_option maxRecDepth 100000 in
theorem len_room {l : List (List UInt8)} (h : taken l ≤ 244) : (room l).length = 244 := by
  rw [room, List.length_append, List.length_append, len_ends, List.length_replicate]
  unfold taken at h ⊢
  omega
/-- What stands ahead of the room. -/
def phead (no : Nat) (kind : UInt8) (n t : Nat) : List UInt8 := fix no 4 ++ (kind :: UInt8.ofNat n :: fix t 2)
set_option maxRecDepth 100000 in
theorem len_phead (no : Nat) (kind : UInt8) (n t : Nat) : (phead no kind n t).length = 8 := by
  rw [phead, List.length_append, len_fix, List.length_cons, List.length_cons, len_fix]
/-- A page but for its last four bytes. -/
def pfirst (p : Pg) : List UInt8 := phead p.no p.kind p.cells.length p.cells.flatten.length ++ room p.cells
set_option maxRecDepth 100000 in
theorem len_pfirst {p : Pg} (h : taken p.cells ≤ 244) : (pfirst p).length = 252 := by
  rw [pfirst, List.length_append, len_phead, len_room h]
/-- A page. -/
def pbytes (p : Pg) : List UInt8 := pfirst p ++ [0, 0, 0, 0]
set_option maxRecDepth 100000 in
theorem len_pbytes {p : Pg} (h : taken p.cells ≤ 244) : (pbytes p).length = 256 := by
  rw [pbytes, List.length_append, len_pfirst h]; rfl
set_option maxRecDepth 100000 in
theorem take_pbytes {p : Pg} (h : taken p.cells ≤ 244) : (pbytes p).take 252 = pfirst p := by
  rw [pbytes, List.take_left' (len_pfirst h)]

/-- The first k cells, and where the last of them ends. -/
def cutK (es all : List UInt8) (t : Nat) : Nat → Option (List (List UInt8) × Nat)
  | 0 => some ([], 0)
  | k + 1 => match cutK es all t k with
    | none => none
    | some x => if unfix ((es.drop (2 * k)).take 2) < x.2 ∨ t < unfix ((es.drop (2 * k)).take 2) then none
      else some (x.1 ++ [(all.drop x.2).take (unfix ((es.drop (2 * k)).take 2) - x.2)], unfix ((es.drop (2 * k)).take 2))
theorem cutK_none {es all : List UInt8} {t k : Nat} (h : cutK es all t k = none) : ∀ d, cutK es all t (k + d) = none
  | 0 => h
  | d + 1 => by
    show cutK es all t (k + d + 1) = none
    rw [cutK, cutK_none h d]
set_option maxRecDepth 100000 in
theorem cutK_none' {es all : List UInt8} {t k n : Nat} (h : cutK es all t k = none) (hn : k ≤ n) : cutK es all t n = none := by
  have := cutK_none h (n - k)
  rwa [show k + (n - k) = n by omega] at this
set_option maxRecDepth 100000 in
theorem cutK_bad {es all : List UInt8} {t k : Nat} {x : List (List UInt8) × Nat} (h : cutK es all t k = some x) (hb : unfix ((es.drop (2 * k)).take 2) < x.2 ∨ t < unfix ((es.drop (2 * k)).take 2)) : cutK es all t (k + 1) = none := by
  rw [cutK, h]; simp only; rw [if_pos hb]
set_option maxRecDepth 100000 in
theorem cutK_more {es all : List UInt8} {t k : Nat} {x : List (List UInt8) × Nat} (h : cutK es all t k = some x) (hb : ¬ (unfix ((es.drop (2 * k)).take 2) < x.2 ∨ t < unfix ((es.drop (2 * k)).take 2))) : cutK es all t (k + 1) = some (x.1 ++ [(all.drop x.2).take (unfix ((es.drop (2 * k)).take 2) - x.2)], unfix ((es.drop (2 * k)).take 2)) := by
  rw [cutK, h]; simp only; rw [if_neg hb]
/-- What the first k cells are. -/
structure Cuts (es all : List UInt8) (t k : Nat) (cs : List (List UInt8)) (b : Nat) : Prop where
  n : cs.length = k
  at_ : cs.flatten.length = b
  le : b ≤ t
  ends : ends 0 cs = es.take (2 * k)
  all : cs.flatten = all.take b
set_option maxRecDepth 100000 in
theorem cutK_is {es all : List UInt8} {t : Nat} (ha : t ≤ all.length) : ∀ (k : Nat) (cs : List (List UInt8)) (b : Nat), 2 * k ≤ es.length → cutK es all t k = some (cs, b) → Cuts es all t k cs b
  | 0, cs, b, _, h => by
    obtain ⟨rfl, rfl⟩ : cs = [] ∧ b = 0 := by simpa [cutK, eq_comm] using h
    exact ⟨rfl, rfl, Nat.zero_le _, rfl, rfl⟩
  | k + 1, cs, b, hk, h => by
    cases hc : cutK es all t k with
    | none => rw [cutK, hc] at h; cases h
    | some x =>
      obtain ⟨cs0, b0⟩ := x
      have ih := cutK_is ha k cs0 b0 (by omega) hc
      by_cases hb : unfix ((es.drop (2 * k)).take 2) < b0 ∨ t < unfix ((es.drop (2 * k)).take 2)
      · rw [cutK_bad hc hb] at h; cases h
      · rw [cutK_more hc hb] at h
        have hl : ((es.drop (2 * k)).take 2).length = 2 := by rw [List.length_take, List.length_drop]; omega
        obtain ⟨h1, h2⟩ := fix_unfix 2 _ hl
        generalize unfix ((es.drop (2 * k)).take 2) = e at *
        obtain ⟨rfl, rfl⟩ : cs0 ++ [(all.drop b0).take (e - b0)] = cs ∧ e = b := by simpa using h
        have hlen : ((all.drop b0).take (e - b0)).length = e - b0 := by rw [List.length_take, List.length_drop]; omega
        refine ⟨by rw [List.length_append, ih.n]; rfl, ?_, by omega, ?_, ?_⟩
        · rw [List.flatten_append, List.length_append, ih.at_]; simp; omega
        · rw [ends_snoc, ih.ends, ih.at_, hlen, show 0 + b0 + (e - b0) = e by omega, h1, show 2 * (k + 1) = 2 * k + 2 by omega, List.take_add]
        · rw [List.flatten_append, ih.all]
          simp only [List.flatten_cons, List.flatten_nil, List.append_nil]
          rw [show e = b0 + (e - b0) by omega, List.take_add]
          congr 2
          omega
set_option maxRecDepth 100000 in
/-- What is put is cut so. -/
theorem cutK_put {cs : List (List UInt8)} {z : List UInt8} (h : taken cs ≤ 244) : ∀ k, k ≤ cs.length → cutK (ends 0 cs) (cs.flatten ++ z) cs.flatten.length k = some (cs.take k, (cs.take k).flatten.length)
  | 0, _ => by simp [cutK]
  | k + 1, hk => by
    have ih := cutK_put (z := z) h k (by omega)
    obtain ⟨c, hc⟩ : ∃ c, cs[k]? = some c := ⟨cs[k], List.getElem?_eq_getElem (by omega)⟩
    have e1 : cs.take (k + 1) = cs.take k ++ [c] := by rw [List.take_add_one, hc]; rfl
    have e2 : cs = cs.take k ++ ([c] ++ cs.drop (k + 1)) := by rw [← List.append_assoc, ← e1, List.take_append_drop]
    have hl : (cs.take k).flatten.length + c.length ≤ cs.flatten.length := by
      conv => rhs; rw [e2]
      simp only [List.flatten_append, List.length_append, List.flatten_cons, List.flatten_nil, List.append_nil]
      omega
    have h244 : cs.flatten.length ≤ 244 := by unfold taken at h; omega
    have hu : unfix (((ends 0 cs).drop (2 * k)).take 2) = (cs.take k).flatten.length + c.length := by
      have e3 : ((ends 0 cs).drop (2 * k)).take 2 = fix ((cs.take k).flatten.length + c.length) 2 := by
        have key : ∀ m : List (List UInt8), ((ends 0 (cs.take k ++ ([c] ++ m))).drop (2 * k)).take 2 = fix ((cs.take k).flatten.length + c.length) 2 := by
          intro m
          rw [ends_app, List.drop_left' (by rw [len_ends, List.length_take]; omega), List.singleton_append, ends, List.take_left' (len_fix _ _), Nat.zero_add]
        have q := key (cs.drop (k + 1))
        rw [← e2] at q
        exact q
      rw [e3, unfix_fix]
      omega
    have hfl : (cs.take (k + 1)).flatten.length = (cs.take k).flatten.length + c.length := by rw [e1]; simp
    have hb : ¬ (unfix (((ends 0 cs).drop (2 * k)).take 2) < (cs.take k).flatten.length ∨ cs.flatten.length < unfix (((ends 0 cs).drop (2 * k)).take 2)) := by rw [hu]; omega
    rw [cutK_more ih hb, hu, e1]
    congr 2
    · congr 1
      have e4 : cs.flatten ++ z = (cs.take k).flatten ++ (c ++ ((cs.drop (k + 1)).flatten ++ z)) := by
        conv => lhs; rw [e2]
        simp
      simp only
      rw [e4, List.drop_left' rfl, show (cs.take k).flatten.length + c.length - (cs.take k).flatten.length = c.length by omega, List.take_left' rfl]
    · simp
/-- Some byte is not 0. -/
def some0 (l : List UInt8) : Bool := l.any (· != 0)
set_option maxRecDepth 100000 in
theorem some0_no {l : List UInt8} (h : some0 l = false) : l = List.replicate l.length 0 := by
  rw [some0, List.any_eq_false] at h
  exact List.eq_replicate_of_mem (fun b hb => by simpa using h b hb)
set_option maxRecDepth 100000 in
theorem some0_zeros (n : Nat) : some0 (List.replicate n 0) = false := by
  rw [some0, List.any_eq_false]
  intro x hx
  rw [(List.mem_replicate.1 hx).2]; simp
/-- The cells that stand in a room. -/
def cutC (rm : List UInt8) (n t : Nat) : Option (List (List UInt8)) :=
  if 244 < 2 * n + t then none else
  match cutK (rm.take (2 * n)) (rm.drop (2 * n)) t n with
  | none => none
  | some x => if x.2 = t ∧ some0 ((rm.drop (2 * n)).drop t) = false then some x.1 else none
/-- The page that bytes are. -/
def readP (bs : List UInt8) : Option Pg :=
  if bs.length ≠ 256 then none else
  match cutC ((bs.drop 8).take 244) (bs.getD 5 0).toNat (unfix ((bs.drop 6).take 2)) with
  | none => none
  | some cs => if 2147483647 < unfix (bs.take 4) ∨ bs.getD 4 0 = 0 then none else some ⟨unfix (bs.take 4), bs.getD 4 0, cs⟩
set_option maxRecDepth 100000 in
theorem cutC_is {rm : List UInt8} {n t : Nat} {cs : List (List UInt8)} (hl : rm.length = 244) (h : cutC rm n t = some cs) : taken cs ≤ 244 ∧ cs.length = n ∧ cs.flatten.length = t ∧ rm = room cs := by
  unfold cutC at h
  split at h
  · cases h
  · rename_i hle
    cases hc : cutK (rm.take (2 * n)) (rm.drop (2 * n)) t n with
    | none => rw [hc] at h; cases h
    | some x =>
      obtain ⟨c, b⟩ := x
      rw [hc] at h
      simp only at h
      split at h
      · rename_i hq
        obtain ⟨rfl, hz⟩ := hq
        obtain rfl : c = cs := by simpa using h
        have q := cutK_is (by rw [List.length_drop]; omega) n c b (by rw [List.length_take]; omega) hc
        have ht : taken c = 2 * n + b := by rw [taken, q.n, q.at_]
        refine ⟨by omega, q.n, q.at_, ?_⟩
        rw [room, q.ends, q.all, ht]
        have e := some0_no hz
        rw [List.length_drop, List.length_drop, hl, show 244 - 2 * n - b = 244 - (2 * n + b) by omega] at e
        rw [← e, List.take_append_drop, List.take_take, Nat.min_self, List.take_append_drop]
      · cases h
set_option maxRecDepth 100000 in
theorem cutC_room {cs : List (List UInt8)} (h : taken cs ≤ 244) : cutC (room cs) cs.length cs.flatten.length = some cs := by
  have e1 : (room cs).take (2 * cs.length) = ends 0 cs := by rw [room, List.take_left' (len_ends _ _)]
  have e2 : (room cs).drop (2 * cs.length) = cs.flatten ++ List.replicate (244 - taken cs) 0 := by rw [room, List.drop_left' (len_ends _ _)]
  have ht : ¬ 244 < 2 * cs.length + cs.flatten.length := by unfold taken at h; omega
  rw [cutC, if_neg ht, e1, e2, cutK_put h cs.length (Nat.le_refl _)]
  simp only [List.take_length]
  rw [List.drop_left' rfl, some0_zeros]
  simp
set_option maxRecDepth 100000 in
theorem parts8 {bs : List UInt8} (h : bs.length = 256) : bs.take 252 = phead (unfix (bs.take 4)) (bs.getD 4 0) (bs.getD 5 0).toNat (unfix ((bs.drop 6).take 2)) ++ (bs.drop 8).take 244 := by
  have h1 := (fix_unfix 4 (bs.take 4) (by rw [List.length_take]; omega)).1
  have h2 := (fix_unfix 2 ((bs.drop 6).take 2) (by rw [List.length_take, List.length_drop]; omega)).1
  rw [phead, h1, h2]
  have e1 : bs.take 252 = bs.take 4 ++ (bs.drop 4).take 248 := by rw [show 252 = 4 + 248 from rfl, List.take_add]
  have e2 : bs.drop 4 = bs.getD 4 0 :: bs.getD 5 0 :: bs.drop 6 := by
    rw [List.drop_eq_getElem_cons (by omega : 4 < bs.length), List.drop_eq_getElem_cons (by omega : 5 < bs.length)]
    rw [List.getD_eq_getElem?_getD, List.getElem?_eq_getElem (by omega : 4 < bs.length), List.getD_eq_getElem?_getD, List.getElem?_eq_getElem (by omega : 5 < bs.length)]
    rfl
  have e3 : (bs.drop 6).take 246 = (bs.drop 6).take 2 ++ (bs.drop 8).take 244 := by rw [show 246 = 2 + 244 from rfl, List.take_add, List.drop_drop]
  rw [e1, e2, List.take_succ_cons, List.take_succ_cons, e3]
  simp
set_option maxRecDepth 100000 in
theorem read_ok {bs : List UInt8} {p : Pg} (h : readP bs = some p) : p.Ok ∧ bs.length = 256 ∧ bs.take 252 = pfirst p := by
  unfold readP at h
  split at h
  · cases h
  · rename_i hl
    have hl : bs.length = 256 := by omega
    cases hc : cutC ((bs.drop 8).take 244) (bs.getD 5 0).toNat (unfix ((bs.drop 6).take 2)) with
    | none => rw [hc] at h; cases h
    | some cs =>
      rw [hc] at h
      simp only at h
      split at h
      · cases h
      · rename_i hn
        obtain rfl : (⟨unfix (bs.take 4), bs.getD 4 0, cs⟩ : Pg) = p := by simpa using h
        obtain ⟨q1, q2, q3, q4⟩ := cutC_is (by rw [List.length_take, List.length_drop]; omega) hc
        refine ⟨⟨by simp only; omega, fun e => hn (.inr e), q1⟩, hl, ?_⟩
        rw [parts8 hl, pfirst]
        simp only
        rw [q2, q3, ← q4]
set_option maxRecDepth 100000 in
theorem read_of {bs : List UInt8} {p : Pg} (hp : p.Ok) (hl : bs.length = 256) (h : bs.take 252 = pfirst p) : readP bs = some p := by
  obtain ⟨hc1, hc2⟩ := hp.count
  have hk : bs = pfirst p ++ bs.drop 252 := by rw [← h, List.take_append_drop]
  have l1 := len_pfirst hp.room
  have l2 := len_phead p.no p.kind p.cells.length p.cells.flatten.length
  have e4 : bs.take 4 = fix p.no 4 := by rw [hk, pfirst, phead, List.append_assoc, List.append_assoc, List.take_left' (len_fix _ _)]
  have e5 : bs.drop 4 = p.kind :: UInt8.ofNat p.cells.length :: (fix p.cells.flatten.length 2 ++ (room p.cells ++ bs.drop 252)) := by
    conv => lhs; rw [hk, pfirst, phead]
    rw [List.append_assoc, List.append_assoc, List.drop_left' (len_fix _ _)]
    simp
  have e6 : bs.getD 4 0 = p.kind := by
    have q := congrArg (fun l => l[0]?) e5
    simp only [List.getElem?_drop] at q
    rw [List.getD_eq_getElem?_getD, q]; rfl
  have e7 : bs.getD 5 0 = UInt8.ofNat p.cells.length := by
    have q := congrArg (fun l => l[1]?) e5
    simp only [List.getElem?_drop] at q
    rw [List.getD_eq_getElem?_getD, q]; rfl
  have e8 : bs.drop 6 = fix p.cells.flatten.length 2 ++ (room p.cells ++ bs.drop 252) := by
    have q := congrArg (List.drop 2) e5
    rw [List.drop_drop] at q
    exact q
  have e9 : (bs.drop 6).take 2 = fix p.cells.flatten.length 2 := by rw [e8, List.take_left' (len_fix _ _)]
  have e10 : (bs.drop 8).take 244 = room p.cells := by
    have q := congrArg (List.drop 2) e8
    rw [List.drop_drop, List.drop_left' (len_fix _ _)] at q
    rw [q, List.take_left' (len_room hp.room)]
  rw [readP, if_neg (by omega), e10, e7, e9, unfix_fix, e4, unfix_fix, e6, ofNat_toNat _ (by omega), Nat.mod_eq_of_lt (by omega : p.cells.flatten.length < 256 ^ 2), Nat.mod_eq_of_lt (by have := hp.no; omega : p.no < 256 ^ 4), cutC_room hp.room]
  simp only
  rw [if_neg (fun c => by have h1 := hp.no; rcases c with c | c; omega; exact hp.kind c)]
theorem read_pbytes {p : Pg} (hp : p.Ok) : readP (pbytes p) = some p := read_of hp (len_pbytes hp.room) (take_pbytes hp.room)
/-- The page of these cells, or none, and why. -/
def fillP (no : Int) (kind : UInt8) (l : List (List UInt8)) : List UInt8 := if no < 0 ∨ 2147483647 < no ∨ kind = 0 then [] else if 244 < taken l then [] else pbytes ⟨no.toNat, kind, l⟩
def fillE (no : Int) (kind : UInt8) (l : List (List UInt8)) : Nat := if no < 0 ∨ 2147483647 < no ∨ kind = 0 then 2 else if 244 < taken l then 32 else 0
def kindP (bs : List UInt8) : UInt8 := match readP bs with
  | none => 0
  | some p => p.kind
def cellsP (bs : List UInt8) : List (List UInt8) := match readP bs with
  | none => []
  | some p => p.cells
end Go.Proofs.YtjlennpoaefllaaGreatDoor.M
