/-
  Layer 3: a function of bytes.
-/
import Derived.Test.YtdkokfpbmmjfkaaCodeRead
import Derived.Deep.RegionLaw
import Derived.Deep.Cut
namespace Go.Proofs.Ytdkokfpbmmjfkaa
open Go.RowKit
set_option linter.unusedVariables false

theorem new3 {w w1 : World} {b : Nat} {x y z : Value} {t : TypeId} (hb : b < w.heap.size) (h : Touch (fun k => k = b) (w.alloc (.cells #[x, y, z] t)) w1) :
    (∀ j, w1.cell? ⟨w.heap.size, j, none⟩ = (#[x, y, z] : Array Value)[j]?) ∧ (∀ j, w1.frozen? ⟨w.heap.size, j, none⟩ = false) ∧ w.heap.size < w1.heap.size := by
  have hne : ¬ w.heap.size = b := by omega
  have hz := h.size
  exact ⟨fun j => (h.cell (p := ⟨w.heap.size, j, none⟩) (by simp) hne).trans (by simp), fun j => (h.frozen (p := ⟨w.heap.size, j, none⟩) (by simp) hne).trans (frozen_new _ _ _ _), by simp at hz; omega⟩
end Go.Proofs.Ytdkokfpbmmjfkaa
