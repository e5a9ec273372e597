/-
  Taking things from the front of bytes: what each call comes to.
-/
import Derived.Test.YthgnkkpmnfjohaaSums
import Derived.Test.YthgnkkpmnfjohaaWireMath
import Derived.Test.YthgnkkpmnfjohaaBytes
import Derived.Below
import Derived.Deep.Cut
import Derived.Outline
namespace Go.Proofs.Ythgnkkpmnfjohaa
open Go.RowKit
set_option linter.unusedVariables false

end Go.Proofs.Ythgnkkpmnfjohaa
