/-
  Layer 9: a batch as a text, and the document's.
-/
import Derived.Test.YtcbadcbnknmdnaaDoorOrdPut
import Derived.Test.YtcbadcbnknmdnaaDoorVals
namespace Go.Proofs.YtcbadcbnknmdnaaDoor
open Go.RowKit
set_option linter.unusedVariables false

theorem OrdRow.lt {w : World} {a : Option Addr} {l : List Ord} (h : OrdRow w a l) (h0 : 0 < l.length) : ∀ x, a = some x → x.block < w.heap.size := by
  obtain ⟨b, off, e, hb, -⟩ := h.at h0
  intro x hx
  rw [e] at hx
  cases hx
  exact hb
theorem ordB_parts (o : Ord) : ordB o = numB o.kind.toNat ++ numB o.unit.toNat ++ numB (zig o.a) ++ numB (zig o.b) := by
  simp [ordB, countsB, numsB, intsB, List.append_assoc]
theorem keepR {W w' : World} (hb : Below W.heap.size W w') {X : Nat} {x y z u : Value} (h : W.cell? ⟨X, 0, none⟩ = some x ∧ W.cell? ⟨X, 1, none⟩ = some y ∧ W.cell? ⟨X, 2, none⟩ = some z ∧ W.cell? ⟨X, 3, none⟩ = some u) :
    w'.cell? ⟨X, 0, none⟩ = some x ∧ w'.cell? ⟨X, 1, none⟩ = some y ∧ w'.cell? ⟨X, 2, none⟩ = some z ∧ w'.cell? ⟨X, 3, none⟩ = some u := by
  have hX := block_lt_of_cell h.1
  exact ⟨(hb.cell (p := ⟨X, 0, none⟩) hX).trans h.1, (hb.cell (p := ⟨X, 1, none⟩) hX).trans h.2.1, (hb.cell (p := ⟨X, 2, none⟩) hX).trans h.2.2.1, (hb.cell (p := ⟨X, 3, none⟩) hX).trans h.2.2.2⟩
end Go.Proofs.YtcbadcbnknmdnaaDoor
