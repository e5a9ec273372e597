/-
  Taking things from the front of bytes: what each call comes to.
-/
import Derived.Test.YtfkhfincggligaaSums
import Derived.Test.YtfkhfincggligaaWireMath
import Derived.Test.YtfkhfincggligaaBytes
import Derived.Below
import Derived.Deep.Cut
import Derived.Outline
namespace Go.Proofs.Ytfkhfincggligaa
open Go.RowKit
set_option linter.unusedVariables false

end Go.Proofs.Ytfkhfincggligaa
