/-
  Layer 13: what was sent: one more; what stands at the head of the laws.
-/
import Derived.Test.YtclecalhbmpipaaWin6
namespace Go.Proofs.Ytclecalhbmpipaa
open Go.RowKit
set_option linter.unusedVariables false

def itCells (p : Nat × List UInt8) : List Value := [.int .u32 (p.1 : Int), .string (bs p.2)]
theorem it_wide (l : List (Nat × List UInt8)) : VWide 2 (l.map itCells) := by
  intro x hx
  obtain ⟨p, -, rfl⟩ := List.mem_map.1 hx
  refine ⟨rfl, fun u hu => ?_⟩
  simp only [itCells, List.mem_cons, List.not_mem_nil, or_false] at hu
  rcases hu with rfl | rfl <;> rfl
end Go.Proofs.Ytclecalhbmpipaa
