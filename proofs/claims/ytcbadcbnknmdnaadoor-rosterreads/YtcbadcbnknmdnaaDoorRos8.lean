/-
  Layer 18: the law's own: Same of two lists; the answers that the document fixes.
-/
import Derived.Test.YtcbadcbnknmdnaaDoorRos7
namespace Go.Proofs.YtcbadcbnknmdnaaDoor
open Go.RowKit
set_option linter.unusedVariables false

theorem row_new18 (w : World) (t : TypeId) (l : List Int) (cs : Array Value) (hcs : cs = (l.map (Value.int .i64)).toArray) (m : Nat) (hm : m = w.heap.size) : IntRow .i64 (w.alloc (.cells cs t)) (some ⟨m, 0, none⟩) l := fun h0 => ⟨m, 0, rfl, fun i hi => new_cell hm (by subst hcs; simp [hi])⟩
theorem vrow_new18 (w : World) (t : TypeId) (k : Nat) (ls : List (List Value)) (hw : VWide k ls) (cs : Array Value) (hcs : cs = ls.flatten.toArray) (m : Nat) (hm : m = w.heap.size) : VRow k (w.alloc (.cells cs t)) (some ⟨m, 0, none⟩) ls := fun h0 => ⟨m, 0, rfl, fun i hi j hj => by
  have h1 := vflat_at hw i hi j hj
  have h2 := (hw _ (List.getElem_mem hi)).1
  rw [← h1]
  subst hcs
  rw [List.getElem?_eq_getElem (show j < ls[i].length by omega)] at h1
  have := new_cell (W := w) (cells := ls.flatten.toArray) (t := t) (j := i * k + j) hm (by simpa using h1)
  rw [h1, Nat.zero_add]
  exact this⟩
theorem act_new18 (w : World) (t : TypeId) (l : List Int) (cs : Array Value) (hcs : cs = (l.map (Value.int .i64)).toArray) (m : Nat) (hm : m = w.heap.size) (n c : Nat) (hn : n = l.length) (h1 : l.length ≤ c) (h2 : c ≤ maxLen) : ActL (w.alloc (.cells cs t)) (.slice (some ⟨m, 0, none⟩) n c) l := by
  subst hn
  exact ⟨_, c, rfl, h1, h2, row_new18 w t l cs hcs m hm, fun h => by cases h⟩
set_option maxRecDepth 100000 in
set_option maxHeartbeats 1000000 in
theorem same18_any (a b : Option Addr) (c d : Nat) (l : List Int) (w : World) (ha : IntRow .i64 w a l) (hb : IntRow .i64 w b l) (n : Nat) (hn : l.length = n) (hl : l.length ≤ 1000) : Calls Tryd.prog 16 #[.slice a n c, .slice b n d] w fun r w' => r = .returned (.int .i64 0) ∧ Below w.heap.size w w' := by
  subst hn
  have HA := Lib.hid ha
  have HB := Lib.hid hb
  clear ha hb
  go_enter Tryd.func16, Tryd.ntmps16
  go_wp2
  generalize hD : l.length = D
  have HD := Lib.hid hD
  rw [hD] at hl
  clear hD
  go_loopw [13] (fun i wr => ∃ k : Nat, k ≤ D ∧ i = .int .i64 k ∧ Hid (Below w.heap.size w wr)) (fun i _ => D - (intOf i).toNat)
  case atStart => exact ⟨0, by omega, rfl, Lib.hid (Below.refl _ _)⟩
  case round =>
    obtain ⟨k, hk, rfl, HM⟩ := hrel
    have hi0 : (0 : Int) ≤ (k : Int) := by omega
    by_cases hlt : k < D
    · have hi1 : (k : Int) < (D : Int) := by omega
      have hkl : k < l.length := by have := HD.out; omega
      obtain ⟨b1, o1, rfl, hc1⟩ := HA.out.below HM.out (by omega)
      obtain ⟨b2, o2, rfl, hc2⟩ := HB.out.below HM.out (by omega)
      have v1 := hc1 k hkl
      have v2 := hc2 k hkl
      generalize l[k] = x at v1 v2
      have l1 := block_lt_of_cell v1
      have l2 := block_lt_of_cell v2
      simp only at l1 l2
      clear hc1 hc2 hkl
      go_wp2
      go_quiet (fail)
      have HM2 := Lib.hid (bel18_drewN HM.out nq)
      go_wp2
      go_roundw
      case rel => exact ⟨k + 1, by omega, by go_num, HM2⟩
      case measure => simp [intOf] <;> omega
    · obtain rfl : k = D := by omega
      have hi1 : (k : Int) ≤ (k : Int) := by omega
      go_wp2
      go_ret
      exact ⟨rfl, HM.out⟩
end Go.Proofs.YtcbadcbnknmdnaaDoor
