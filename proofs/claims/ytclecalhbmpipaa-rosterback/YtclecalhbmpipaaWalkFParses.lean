/-
  The walk of the law FragParses.
-/
import Derived.Test.YtclecalhbmpipaaFrag5
namespace Go.Proofs.Ytclecalhbmpipaa
open Go.RowKit
set_option linter.unusedVariables false

theorem any_list (s : ByteArray) (n : Nat) : ∃ l : List UInt8, cutB s n = bs l ∧ l.length ≤ n :=
  ⟨(cutB s n).data.toList, (bs_eta _).symm, by have : (cutB s n).data.toList.length = (cutB s n).size := by simp
                                               rw [this]; exact cutB_le s n⟩
end Go.Proofs.Ytclecalhbmpipaa
