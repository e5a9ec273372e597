/-
  Layer 9: batches as the document's, copies of them, are they alike.
-/
import Derived.Test.YtfkhfincggligaaOrder2
namespace Go.Proofs.Ytfkhfincggligaa
open Go.RowKit
set_option linter.unusedVariables false

end Go.Proofs.Ytfkhfincggligaa
