/-
  Layer 9: batches as the document's, copies of them, are they alike.
-/
import Derived.Test.YtpilkaggiajjmaaOrder2
namespace Go.Proofs.Ytpilkaggiajjmaa
open Go.RowKit
set_option linter.unusedVariables false

end Go.Proofs.Ytpilkaggiajjmaa
