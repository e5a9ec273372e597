/-
  Datagrams: what each call that makes or opens one comes to.
-/
import Derived.Test.YtfkhfincggligaaSums
import Derived.Test.YtfkhfincggligaaWireMath
import Derived.Test.YtfkhfincggligaaBytes
import Derived.Below
import Derived.LoopN
import Derived.Deep.RegionWith
namespace Go.Proofs.Ytfkhfincggligaa
open Go.RowKit
set_option linter.unusedVariables false

theorem below_drew0 {w w' : World} (h : Below w.drew.heap.size w.drew w') : Below w.heap.size w w' := ⟨h.os, h.tape, h.output, h.size, h.block⟩
theorem one_back (w : World) (c : UInt8) : (convert 30 9 (.slice (some ⟨w.heap.size, 0, none⟩) 1 1)).run Try.prog (w.alloc (.cells #[.int .u8 (c.toNat : Int)] 5)) = .ok (.string (bs [c])) (w.alloc (.cells #[.int .u8 (c.toNat : Int)] 5)) := by
  refine bytes_back _ _ 1 1 [c] rfl fun j hj => ?_
  obtain rfl : j = 0 := by simpa using hj
  simp
theorem four_back (u : World) (b : Nat) (t : TypeId) (x : Nat) (hx : x < 4294967296) (hb : b = u.heap.size) :
    (convert 30 9 (.slice (some ⟨b, 0, none⟩) 4 4)).run Try.prog (u.alloc (.cells #[.int .u8 ((x : Int) % 256), .int .u8 ((x : Int) / 256 % 256), .int .u8 ((x : Int) / 65536 % 256), .int .u8 ((x : Int) / 16777216)] t)) =
      .ok (.string (bs (sum4 x))) (u.alloc (.cells #[.int .u8 ((x : Int) % 256), .int .u8 ((x : Int) / 256 % 256), .int .u8 ((x : Int) / 65536 % 256), .int .u8 ((x : Int) / 16777216)] t)) := by
  subst hb
  refine bytes_back _ _ 4 4 (sum4 x) rfl fun j hj => ?_
  have h0 : ((x % 256 : Nat) : Int) = (x : Int) % 256 := by omega
  have h1 : ((x / 256 % 256 : Nat) : Int) = (x : Int) / 256 % 256 := by omega
  have h2 : ((x / 65536 % 256 : Nat) : Int) = (x : Int) / 65536 % 256 := by omega
  have h3 : ((x / 16777216 % 256 : Nat) : Int) = (x : Int) / 16777216 := by omega
  rcases (show j = 0 ∨ j = 1 ∨ j = 2 ∨ j = 3 by rw [sum4_length] at hj; omega) with rfl | rfl | rfl | rfl
  · simp [sum4, byteOf_toNat (show x % 256 < 256 by omega)]
  · simp [sum4, byteOf_toNat (show x / 256 % 256 < 256 by omega)]
  · simp [sum4, byteOf_toNat (show x / 65536 % 256 < 256 by omega)]
  · simp only [sum4, List.getElem_cons_succ, List.getElem_cons_zero, byteOf_toNat (show x / 16777216 % 256 < 256 by omega), h3]
    simp
end Go.Proofs.Ytfkhfincggligaa
