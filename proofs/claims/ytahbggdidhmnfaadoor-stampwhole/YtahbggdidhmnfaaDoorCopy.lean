/- Bytes copied into a sector; a new sector; Open. -/
import Derived.Test.YtahbggdidhmnfaaDoorRefuse
namespace Go.Proofs.YtahbggdidhmnfaaDoor
open Go.RowKit

set_option maxRecDepth 100000 in
theorem info5 : (Tryd.prog.info? 5).map (·.size) = some 1 := by kernel_rfl
/-- A sector of bytes 0, as cells. -/
def Z256 : Array Value := (S (List.replicate 256 0)).toArray
set_option maxRecDepth 100000 in
theorem zero43 (w : World) : (zeroValue 43).run Tryd.prog w = .ok (.agg Z256) w := by kernel_rfl
theorem Sec.new (w : World) : Sec (w.alloc (.cells Z256 43)) w.heap.size (List.replicate 256 0) := ⟨by rw [List.length_replicate], heap_alloc_new w _⟩
theorem Adds.one {w0 w w' : World} {g : Nat} (h : Adds w0 w) (hT : Touch (fun k => k = g) w w') (hg : w0.heap.size ≤ g) : Adds w0 w' := h.then hT (fun i hi e => by subst e; exact absurd hi (Nat.not_lt.2 hg))

set_option maxRecDepth 100000 in
theorem copy_run (w : World) (ty : TypeId) (g off n cap : Nat) (a : Option Addr) (xs : List UInt8) (cx : Nat) (cs : List UInt8) (hS : Sec w g cs) (hA : At w a xs) (hc : a = none → cx = 0) (hx : xs.length ≤ n) (hfit : off + xs.length ≤ 256) :
    ∃ w', (Builtin.copy_ #[23, 23] ty #[.slice (some ⟨g, off, none⟩) n cap, .slice a xs.length cx]).run Tryd.prog w = .ok (.int .i64 (xs.length : Int)) w' ∧ Sec w' g (cs.take off ++ xs ++ cs.drop (off + xs.length)) ∧ Touch (fun k => k = g) w w' := by
  cases a with
  | none =>
    obtain rfl := hc rfl
    obtain rfl : xs = [] := by
      cases xs with
      | nil => rfl
      | cons c xs => obtain ⟨b, o', e, _⟩ := hA 0 c rfl; cases e
    refine ⟨w, run_copy_nil Tryd.prog w 23 23 ty 5 ⟨g, off, none⟩ n cap Tryd.underlying23 (by rw [info5]; rfl), ?_, Touch.refl _ _⟩
    rw [List.append_nil, List.length_nil, Nat.add_zero, List.take_append_drop]
    exact hS
  | some ad =>
    have hrun := run_copy_row Tryd.prog w 23 23 ty 5 g off n cap ad xs.length cx (S cs).toArray 43 (S xs) Tryd.underlying23 info5 hS.box (by rw [length_S]; exact (Nat.min_eq_left hx).symm) (fun j v hv => by
      rw [S_get] at hv
      cases hj : xs[j]? with
      | none => rw [hj] at hv; cases hv
      | some c =>
        rw [hj] at hv
        obtain ⟨b, o', e, hcc⟩ := hA j c hj
        obtain rfl : ad = ⟨b, o', none⟩ := by simpa using e
        rw [Addr.add_mid, hcc]
        exact hv) (by rw [length_S, List.size_toArray, length_S, hS.len]; exact hfit) (one_S xs)
    refine ⟨_, hrun.trans (by rw [length_S]; rfl), ⟨?_, ?_⟩, Touch.setRow (T := fun k => k = g) (Touch.refl _ w) (fun _ => rfl) _⟩
    · simp only [List.length_append, List.length_take, List.length_drop, hS.len]; omega
    · rw [setRow_heap w g _ _ 43 _ hS.box]
      congr 2
      simp only [S, List.map_append, List.map_take, List.map_drop]

set_option maxRecDepth 100000 in
theorem copy_sec {w : World} {ops : Array Oper} {rest : List Oper} {o : Oper} {act : Act} {Q : Exit → Act → World → Prop} (hgd : o.guard = none) (d s : Operand)
    (ho : o.op = .call { callee := .builtin .copy, args := #[d, s], argTypes := #[23, 23] }) (g off n cap : Nat) (hd : act.eval d = .slice (some ⟨g, off, none⟩) n cap) (a : Option Addr) (xs : List UInt8) (cx m : Nat) (hm : xs.length = m) (hs : act.eval s = .slice a m cx)
    (cs ds : List UInt8) (hds : cs.take off ++ xs ++ cs.drop (off + xs.length) = ds) (hS : Sec w g cs) (hA : At w a xs) (hc : a = none → cx = 0) (hx : xs.length ≤ n) (hfit : off + xs.length ≤ 256)
    (h : ∀ w', Sec w' g ds → Touch (fun k => k = g) w w' → wpList Tryd.prog ops Q rest (act.put o.dst (.int .i64 (m : Int))) w') : wpList Tryd.prog ops Q (o :: rest) act w := by
  subst hm
  subst hds
  obtain ⟨w', hr, hS', hT⟩ := copy_run w o.type g off n cap a xs cx cs hS hA hc hx hfit
  refine wpList_plain hgd fun K hK => ?_
  unfold Oper.wp execOp
  simp only [ho, resolve, invoke, builtin, Sem.run_bind, Sem.run_pure, Result.andThen_ok, List.map_toArray, List.map_cons, List.map_nil, hd, hs, hr]
  exact hK _ _ (h w' hS' hT)

set_option maxRecDepth 100000 in
theorem res4 {fn : Func} {t u v x : Tmp} (h : fn.results = #[.tmp t, .tmp u, .tmp v, .tmp x]) (tmps : Array Value) (P : Program) (w : World) :
    (results fn tmps).run P w = .ok (.tuple #[tmps.getD t undef, tmps.getD u undef, tmps.getD v undef, tmps.getD x undef]) w := by simp [results, h]
/-- Where a body lies. -/
def Body (w w' : World) (a : Option Addr) (b : List UInt8) : Prop := b = [] ∨ ∃ g cs, a = some ⟨g, 10, none⟩ ∧ w.heap.size ≤ g ∧ Sec w' g cs ∧ (cs.drop 10).take b.length = b
set_option maxRecDepth 100000 in
theorem Body.at {w w' : World} {a : Option Addr} {b : List UInt8} (h : Body w w' a b) : At w' a b := by
  rcases h with rfl | ⟨g, cs, rfl, _, hS, hb⟩
  · exact At.nil _ _
  · rw [← hb]; exact hS.part 10 b.length
/-- What Open tells. -/
def PSOpen (w : World) (bs : List UInt8) (e : Ending) (w' : World) : Prop := ∃ av cv, e = .returned (.tuple #[.int .u64 (M.oMark bs : Int), .int .u8 ((M.oKind bs).toNat : Int), .slice av (M.oBody bs).length cv, .int .i64 (M.oErr bs : Int)]) ∧ Body w w' av (M.oBody bs) ∧ Adds w w'

set_option maxRecDepth 100000 in
set_option maxHeartbeats 1000000 in
theorem sopen_long (a : Option Addr) (n cap : Nat) (w : World) (h : n ≠ 256) : Calls Tryd.prog 11 #[.slice a n cap] w fun e w' => e = .returned (.tuple #[.int .u64 0, .int .u8 0, .slice none 0 0, .int .i64 21]) ∧ w' = w := by
  have h' : ¬ (n : Int) = 256 := by omega
  go_enter Tryd.func11, Tryd.ntmps11
  go_wp2
  (try simp only [Exit.inBlock, Exit.then]); refine bodyPost_ret (res4 rfl _ _ _) rfl ?_
  exact ⟨rfl, rfl⟩
set_option maxRecDepth 100000 in
set_option maxHeartbeats 2000000 in
theorem sopen_bad (a : Option Addr) (bs : List UInt8) (cap : Nat) (w : World) (hl : bs.length = 256) (hc : a = none → cap = 0) (hA : At w a bs) (hT : Tab w) (z : Nat) (hz : M.oErr bs = z) (h0 : z ≠ 0) :
    Calls Tryd.prog 11 #[.slice a 256 cap] w fun e w' => e = .returned (.tuple #[.int .u64 0, .int .u8 0, .slice none 0 0, .int .i64 (z : Int)]) ∧ Adds w w' := by
  have hz43 := zero43
  have hs := slice43a w.heap.size
  have HZ := hid (Sec.new w)
  have HA0 := hid (show Adds w (w.alloc (.cells Z256 43)) from (Touch.refl _ w).alloc _)
  have HA := hid (And.intro hl (And.intro hc (hA.adds HA0.out)))
  have HE := hid (show (List.replicate 256 (0 : UInt8)).take 0 ++ bs ++ (List.replicate 256 0).drop (0 + bs.length) = bs by
    rw [List.take_zero, List.nil_append, List.drop_eq_nil_of_le (by rw [List.length_replicate]; omega), List.append_nil])
  have HT := hid hT
  have HR := hid hz
  have hz0 : ¬ (z : Int) = 0 := by omega
  clear hl hc hA hT hz h0
  go_enter Tryd.func11, Tryd.ntmps11
  go_wp2_with (first
    | (refine copy_sec rfl _ _ rfl w.heap.size 0 256 256 rfl a bs cap 256 HA.out.1 rfl (List.replicate 256 0) bs HE.out HZ.out HA.out.2.2 HA.out.2.1 (by rw [HA.out.1]; decide) (by rw [HA.out.1]; decide) ?_; intro w1 hS hT; have A1 := hid (show Adds w w1 from Adds.one HA0.out hT (Nat.le_refl _)); have S1 := hid hS; clear hS hT)
    | (go_at_call 24; refine (refusal_any w.heap.size bs w1 S1.out (HT.out.adds A1.out)).mono ?_; rintro e w2 ⟨rfl, hA⟩; rw [HR.out]; have A2 := hid (A1.out.trans hA); clear hA))
  (try simp only [Exit.inBlock, Exit.then]); refine bodyPost_ret (res4 rfl _ _ _) rfl ?_
  exact ⟨rfl, A2.out⟩
end Go.Proofs.YtahbggdidhmnfaaDoor
