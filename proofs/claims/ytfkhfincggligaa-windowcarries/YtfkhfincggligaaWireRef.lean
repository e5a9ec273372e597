/-
  The document's own answers for layer 2: what each comes to.
-/
import Derived.Test.YtfkhfincggligaaWirePut
import Derived.Test.YtfkhfincggligaaWireTake
import Derived.Test.YtfkhfincggligaaWireSeal
namespace Go.Proofs.Ytfkhfincggligaa
open Go.RowKit
set_option linter.unusedVariables false

theorem byte_back (w : World) (c : UInt8) (x : Int) (hx : x = (c.toNat : Int)) : (convert 30 9 (.slice (some ⟨w.heap.size, 0, none⟩) 1 1)).run Try.prog (w.alloc (.cells #[.int .u8 x] 5)) = .ok (.string (bs [c])) (w.alloc (.cells #[.int .u8 x] 5)) := by
  subst hx; exact one_back w c
end Go.Proofs.Ytfkhfincggligaa
