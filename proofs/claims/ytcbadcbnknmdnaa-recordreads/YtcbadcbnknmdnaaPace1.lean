/-
  Layer 17: a meter as it lies, and what each of its calls comes to.
-/
import Derived.Test.YtcbadcbnknmdnaaPaceM
import Derived.Test.YtcbadcbnknmdnaaStack
import Derived.BigQuiet
import Derived.Deep.QuietTactic
import Derived.Deep.OwnRows
import Derived.Laws.CopyOwn
import Derived.Outline
namespace Go.Proofs.Ytcbadcbnknmdnaa
open Go.RowKit
set_option linter.unusedVariables false

def meterG (l : List Int) (c : Nat) (i : Nat) : Value := if i < 8 then .int .i64 (l.getD i 0) else .int .i64 (c : Nat)
def good (x : Int) : Prop := 0 ≤ x ∧ x ≤ 9223372036854775807
theorem infoInt9 : (Try.prog.info? 3).map (·.size) = some 1 := by kernel_rfl
end Go.Proofs.Ytcbadcbnknmdnaa
