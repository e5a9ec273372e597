/-
  Layer 3, its small calls: ops, their words, instructions, functions of instructions.
-/
import Derived.Test.YtpilkaggiajjmaaAppend
import Derived.Test.YtpilkaggiajjmaaWireOut
import Derived.Lib.Hide
import Derived.WalkSpells
namespace Go.Proofs.Ytpilkaggiajjmaa
open Go.RowKit
set_option linter.unusedVariables false

/-- Has an op an argument? -/
def hasA (o : Nat) : Bool := o == 1 || o == 13 || o == 14 || o == 15 || o == 17 || o == 18 || o == 22
theorem hasA_yes {o : Nat} (h : hasA o = true) : o = 1 ∨ o = 13 ∨ o = 14 ∨ o = 15 ∨ o = 17 ∨ o = 18 ∨ o = 22 := by
  simp [hasA] at h; omega
theorem hasA_no {o : Nat} (h : hasA o = false) : o ≠ 1 ∧ o ≠ 13 ∧ o ≠ 14 ∧ o ≠ 15 ∧ o ≠ 17 ∧ o ≠ 18 ∧ o ≠ 22 := by
  simp [hasA] at h; omega
/-- The words, by their ops' numbers. -/
def opWords : List (List UInt8) := [[], [112, 117, 115, 104], [112, 111, 112], [100, 117, 112], [115, 119, 97, 112], [97, 100, 100], [115, 117, 98], [109, 117, 108], [100, 105, 118], [109, 111, 100], [101, 113], [108, 101, 115, 115], [110, 111, 116], [106, 117, 109, 112], [98, 114, 97, 110, 99, 104], [99, 97, 108, 108], [114, 101, 116], [108, 111, 97, 100], [115, 116, 111, 114, 101], [103, 101, 116], [112, 117, 116], [114, 97, 110, 100], [104, 111, 115, 116]]
def opWord (o : Nat) : List UInt8 := if 1 ≤ o ∧ o ≤ 22 then opWords.getD o [] else [63]
/-- What Of makes of an op and a list. -/
def ofArg (o : Nat) (ns : List Int) : Int := if hasA o then ns.headD 0 else 0
end Go.Proofs.Ytpilkaggiajjmaa
