/- Whether two columns have one name: asked of a map. -/
import Derived.Test.YtlgchdpajfmpdaaIndex
import Derived.Maps.OwnSet
import Derived.Maps.OwnOps
import Derived.Maps.AppendAt
import Derived.StringKeys
namespace Go.Proofs.Ytlgchdpajfmpdaa
open Go.RowKit Go.Maps

theorem law9 : Keyed Try.prog 9 := string_keyed Try.underlying9
theorem zero78 (w : World) : (zeroValue 78).run Try.prog w = .ok (.agg #[]) w := by kernel_rfl
/-- The names that have been seen, as a map's keys. -/
def keys (cs : List M.Col) : List Lit := cs.map fun c => Lit.string c.1
def seen (cs : List M.Col) : DataW Unit := setOf (.agg []) (keys cs)
theorem has_seen (cs : List M.Col) (n : List UInt8) : Maps.has (seen cs) (.string n) = decide (n ∈ cs.map (·.1)) := by
  rw [seen, has_setOf]
  · rw [Bool.eq_iff_iff, List.any_eq_true, decide_eq_true_iff]
    constructor
    · rintro ⟨x, hx, hs⟩
      obtain ⟨c, hc, rfl⟩ := List.mem_map.1 hx
      have := WideAt.sameKey_eq hs
      simp only [Lit.string.injEq] at this
      exact List.mem_map.2 ⟨c, hc, this⟩
    · intro h
      obtain ⟨c, hc, rfl⟩ := List.mem_map.1 h
      exact ⟨.string c.1, List.mem_map.2 ⟨c, hc, rfl⟩, WideAt.sameKey_self trivial⟩
  · intro x hx
    obtain ⟨c, _, rfl⟩ := List.mem_map.1 hx
    exact trivial
theorem seen_take {cs : List M.Col} {i : Nat} {c : M.Col} (h : cs[i]? = some c) : seen (cs.take (i + 1)) = (seen (cs.take i)).put (.string c.1) (.agg []) := by
  rw [List.take_add_one, h, seen, keys, List.map_append]
  exact setOf_snoc _ _ _
theorem key_of (n : List UInt8) (h : n.length ≤ 1000) : keyOf Try.prog 9 (.string ⟨n.toArray⟩) = some (.string n) := by
  have := Go.WideMaps.keyOf_string_mk Try.underlying9 (s := ⟨n.toArray⟩) (by show n.toArray.size ≤ maxLen; unfold maxLen; simp; omega)
  simpa using this
set_option maxRecDepth 100000 in
set_option maxHeartbeats 2000000 in
theorem twice_any (a : Option Addr) (cap : Nat) (cs : List M.Col) (w : World) (hA : ColAt w a cs) (hl : cs.length ≤ 1000) (hn : ∀ c ∈ cs, c.1.length ≤ 1000) : Calls Try.prog 28 #[.slice a cs.length cap] w (Tells w (.bool (!decide (cs.map (·.1)).Nodup))) := by
  have HA := hid hA
  have HN := hid hn
  have hmm := @run_makeMap Try.prog
  clear hA hn
  go_enter Try.func28, Try.ntmps28
  go_wp2_with fail
  go_loopw [11] (fun iv wr => ∃ i : Nat, iv = .int .i64 (i : Int) ∧ i ≤ cs.length ∧ Hid (wr.ownsMap Try.prog 9 (unitElem (H := Unit)) w.heap.size i (seen (cs.take i)) ∧ ((cs.map (·.1)).take i).Nodup ∧ Adds w wr)) (fun iv _ => cs.length - (intOf iv).toNat)
  case atStart => exact ⟨0, rfl, Nat.zero_le _, World.ownsMap_made _ _ _ _, by simp, (Touch.refl _ w).alloc _⟩
  case round =>
    obtain ⟨i, rfl, hi, HI⟩ := hrel
    by_cases hlt : i < cs.length
    · have hltz : (i : Int) < (cs.length : Int) := by omega
      obtain ⟨c, hc⟩ : ∃ c, cs[i]? = some c := ⟨cs[i], List.getElem?_eq_getElem hlt⟩
      obtain ⟨b, o, ea, c0, c1⟩ := (HA.out.adds HI.out.2.2) i c hc
      subst ea
      have hkey := key_of c.1 (HN.out c (List.mem_of_getElem? hc))
      have hnm : (cs.map (·.1))[i]? = some c.1 := by rw [List.getElem?_map, hc]; rfl
      have hhas := has_seen (cs.take i) c.1
      rw [List.map_take] at hhas
      have HC := hid (And.intro hc hnm)
      clear hc hnm
      by_cases hm : c.1 ∈ (cs.map (·.1)).take i
      · rw [decide_eq_true hm] at hhas
        have HF := hid (M.not_nodup HC.out.2 hm)
        clear hm
        go_wp2_with (first
          | (at_lookup; refine wpList_lookup_own_unit _ rfl _ _ 77 rfl 9 78 law9 Try.underlying77 (zero78 _) w.heap.size i _ rfl (HI.out.1.alloc _) _ _ rfl hkey ?_; rw [hhas]))
        go_ret
        exact ⟨by rw [decide_eq_false HF.out]; rfl, (HI.out.2.2.alloc _).alloc _⟩
      · rw [decide_eq_false hm] at hhas
        have HF := hid (M.nodup_take HC.out.2 HI.out.2.1 hm)
        clear hm
        go_wp2_with (first
          | (at_lookup; refine wpList_lookup_own_unit _ rfl _ _ 77 rfl 9 78 law9 Try.underlying77 (zero78 _) w.heap.size i _ rfl (HI.out.1.alloc _) _ _ rfl hkey ?_; rw [hhas])
          | (at_mapUpdate; refine wpList_mapUpdate_own _ rfl _ _ _ 77 rfl 9 78 law9 Try.underlying77 (unitElem (H := Unit)) w.heap.size i _ rfl ((HI.out.1.alloc _).alloc _) (by unfold maxLen; omega) _ _ _ rfl rfl hkey _ [] unitElem_mk ?_; intro w1 hown1 hgrow1; have HG := hid (And.intro hown1 hgrow1); clear hown1 hgrow1))
        go_roundw
        case rel => exact ⟨i + 1, by go_num, by omega, by rw [seen_take HC.out.1]; exact HG.out.1, HF.out, Touch.grown ((HI.out.2.2.alloc _).alloc _) HG.out.2 (fun j hj hlt => by cases hj; omega)⟩
        case measure => simp [intOf]; omega
    · have hltz : ¬ (i : Int) < (cs.length : Int) := by omega
      have HF := hid (show (cs.map (·.1)).Nodup by have := HI.out.2.1; rw [List.take_of_length_le (by simp; omega)] at this; exact this)
      go_wp2_with fail
      go_ret
      exact ⟨by rw [decide_eq_true HF.out]; rfl, HI.out.2.2⟩
end Go.Proofs.Ytlgchdpajfmpdaa
