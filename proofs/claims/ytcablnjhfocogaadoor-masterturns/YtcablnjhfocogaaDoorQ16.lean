/- maps.Clone and slices.Clone, as the disk calls them. -/
import Derived.Test.YtcablnjhfocogaaDoorQ14
import Derived.Laws.Externs
namespace Go.Proofs.YtcablnjhfocogaaDoor
open Go.RowKit

section
variable {P : Program} (w : World)
set_option maxRecDepth 100000 in
theorem run_equalIn_map_nil' (d : Nat) (t k e : TypeId) (p : Option Nat) (h : P.underlying t = some (.map k e)) :
    (Op.equalIn (d + 1) t (.map p) (.map none)).run P w = .ok p.isNone w := by
  cases p <;> simp [Op.equalIn, run_underlying h]
set_option maxRecDepth 100000 in
theorem run_eql_map_nil' (t k e : TypeId) (p : Option Nat) (h : P.underlying t = some (.map k e)) :
    (binOp .eql t (.map p) (.map none)).run P w = .ok (.bool p.isNone) w := by
  simp only [binOp]
  simp [show Op.equal t (.map p) (.map none) = Op.equalIn (9999 + 1) t (.map p) (.map none) from rfl, run_equalIn_map_nil' w 9999 t k e p h]
set_option maxRecDepth 100000 in
theorem run_typeAssert_map' (t xT k e : TypeId) (v : Value) (h : P.underlying t = some (.map k e)) : (Instr.typeAssert (.iface t v) xT t false).run P w = .ok v w := by
  simp [Instr.typeAssert, run_underlying h, go_sem, Result.andThen]
set_option maxRecDepth 100000 in
theorem run_maps_clone' {r : Nat} {es : Array MapEntry} {clock : Nat} (t : TypeId) (hb : w.heap[r]? = some (.map es clock)) :
    (Extern.MapsClone.clone #[.iface t (.map (some r))]).run P w = .ok (.iface t (.map (some w.heap.size))) (w.alloc (.map es clock)) := by
  have e : Extern.MapsClone.clone #[.iface t (.map (some r))] = (getObj r >>= fun o => match o with
      | .map entries clock => (newObj (.map entries clock) >>= fun n => pure (.iface t (.map (some n))))
      | _ => stuck "maps.clone: a map expected") := rfl
  rw [e]
  simp [MapKept.run_getObj_map hb, Result.andThen, go_sem]
end

set_option maxRecDepth 100000 in
set_option maxHeartbeats 1000000 in
theorem mapsClone_any (b : Nat) (es : Array MapEntry) (clock : Nat) (w : World) (hb : w.heap[b]? = some (.map es clock)) :
    Calls Tryd.prog 28 #[.map (some b)] w fun e w' => e = .returned (.map (some w.heap.size)) ∧ w' = w.alloc (.map es clock) := by
  have hq := fun w => run_eql_map_nil' (P := Tryd.prog) w 24 _ _ (some b) Tryd.underlying24
  go_enter Tryd.func28, Tryd.ntmps28
  go_wp2
  rw [run_callFunc_extern Tryd.func49 (by kernel_rfl) (by kernel_rfl) (by kernel_rfl) (e := Extern.MapsClone.clone) (by kernel_rfl), run_maps_clone' w 24 hb]
  simp only [Result.andThen]
  rw [Oper.upon_value]
  go_wp2
  rw [run_typeAssert_map' _ 24 20 _ _ _ Tryd.underlying24]
  simp only [Result.andThen]
  rw [Oper.upon_value]
  go_wp2
  go_ret
  exact ⟨rfl, rfl⟩

/-- What slices.Clone tells: the bytes in new memory. -/
def dPClone (w : World) (bs : List UInt8) (e : Ending) (w' : World) : Prop := ∃ v, e = .returned v ∧ w'.ownsRow w.heap.size 5 1 v bs.length (S bs) ∧ v ≠ .slice none 0 0 ∧ Adds w w'

set_option maxRecDepth 100000 in
set_option maxHeartbeats 1000000 in
theorem slicesClone_any (g off cap : Nat) (bs : List UInt8) (w : World) (hn : 0 < bs.length) (hm : bs.length ≤ 4096) (hr : w.rangeAt g off (S bs)) :
    Calls Tryd.prog 32 #[.slice (some ⟨g, off, none⟩) bs.length cap] w (dPClone w bs) := by
  have hq := fun w => Lib.run_eql_slice_nil (P := Tryd.prog) w 59 5 (some ⟨g, off, none⟩) bs.length cap 0 0 Tryd.underlying59
  obtain ⟨i0, hi, hz0, hz1, hz2⟩ := info5all
  have HR : Hid (w.rangeAt g off (S bs)) := hr
  clear hr
  have h1 : (S bs).length = bs.length * 1 := by rw [length_S, Nat.mul_one]
  have h2 : ∀ j u, (S bs)[j]? = some u → (w.alloc (.cells #[] 5)).cell? ((⟨g, off, none⟩ : Addr).add j) = some u := by
    intro j u hu
    rw [Addr.add_mid]
    exact World.rangeAt_alloc HR.out _ j u hu
  have h3 : 0 + bs.length ≤ maxLen := by unfold maxLen; omega
  have h4 : (0 + bs.length) * 1 ≤ 140737488355328 := by omega
  have h5 : w.heap.size ≤ (w.alloc (.cells #[] 5)).heap.size := by simp
  have H1 := hid (h1)
  have H2 := hid (h2)
  have H3 := hid (h3)
  have H4 := hid (h4)
  have H5 := hid (h5)
  clear h1 h2 h3 h4 h5
  go_enter Tryd.func32, Tryd.ntmps32
  go_wp2_with (at_builtin; refine wpList_append_own _ rfl _ _ 59 rfl w.heap.size 5 i0 (.int .u8 0) 1 1 Tryd.underlying59 hi hz0 hz1 hz2 rfl (by decide) (.slice (some ⟨w.heap.size, 0, none⟩) 0 0) 0 [] rfl (World.ownsRow_lit w #[] 0 (Nat.le_refl _) (by decide) rfl) ⟨g, off, none⟩ bs.length cap (S bs) rfl H1.out H2.out (one_S bs) H3.out H4.out H5.out ?_; intro v' w3 hown' hgrow3 hnil3)
  go_ret
  refine ⟨v', rfl, ?_, ?_, ?_⟩
  · simpa using hown'
  · intro e; exact absurd (hnil3.1 e).1 (by simp)
  · exact Touch.grown (T := fun _ => False) ((Touch.refl _ w).alloc _) hgrow3 (fun k hk hlt => by simp [Value.ownBlock] at hk; omega)

end Go.Proofs.YtcablnjhfocogaaDoor
