/-
  The walk of the law FragParses.
-/
import Derived.Test.YtlhcihjplolgiaaFrag5
namespace Go.Proofs.Ytlhcihjplolgiaa
open Go.RowKit
set_option linter.unusedVariables false

theorem pt_neq (b : Bool) (t : ByteArray) (w : World) : (binOp .neq 151 (.agg #[.bool b, .string t]) (.agg #[.bool b, .string t])).run Try.prog w = .ok (.bool false) w := by
  have := str_eq t
  cases b <;> go_simp
theorem any_list (s : ByteArray) (n : Nat) : ∃ l : List UInt8, cutB s n = bs l ∧ l.length ≤ n :=
  ⟨(cutB s n).data.toList, (bs_eta _).symm, by have : (cutB s n).data.toList.length = (cutB s n).size := by simp
                                               rw [this]; exact cutB_le s n⟩
end Go.Proofs.Ytlhcihjplolgiaa
